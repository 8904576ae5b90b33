/-
  A new key in a leaf that is the root and has room: the contract of planned.
  Writes carried out: the contracts of free of nothing, carryOut.
  A new key in a leaf that is the root and has room: the contracts of fulfil and Put.
-/
import Derived.Test.YtojkbhkjnhhkoaaGreatMg23
namespace Go.Proofs.YtojkbhkjnhhkoaaGreat
open Go.RowKit Go.Maps Go.Sort Go.Shelf

theorem slice_from_c (a : Option Addr) (n c k : Nat) (hk : k ≤ n) (a2 : Option Addr) (ha2 : (if c = k then a else Option.map (fun x => x.add k) a) = a2) (n2 c2 : Nat) (hn2 : n - k = n2) (hc2 : c - k = c2) (w : World) : (Instr.slice 34 (.slice a n c) (some (.int .i64 (k : Int))) none none).run Tryz.prog w = .ok (.slice a2 n2 c2) w := by
  subst hn2 hc2 ha2
  rw [run_slice_l (ht := by kernel_rfl) (h0 := by omega) (h1 := by omega), show ((sizeOf (Tryz.prog.elem 34)).run Tryz.prog w) = .ok 1 w by kernel_rfl]
  simp [sliced, Result.andThen]
theorem add_zero_c (a : Option Addr) : Option.map (fun x => x.add 0) a = a := by
  cases a with
  | none => rfl
  | some x => obtain ⟨b, o, s⟩ := x; simp [Addr.add]
theorem slice_to_c (a : Option Addr) (n c k : Nat) (hk : k ≤ c) (w : World) : (Instr.slice 34 (.slice a n c) none (some (.int .i64 (k : Int))) none).run Tryz.prog w = .ok (.slice a k c) w := by
  rw [run_slice_h (ht := by kernel_rfl) (h0 := by omega) (h2 := by omega), show ((sizeOf (Tryz.prog.elem 34)).run Tryz.prog w) = .ok 1 w by kernel_rfl]
  simp [sliced, Result.andThen, add_zero_c]
theorem append_nils (w : World) : (Builtin.append_ #[42, 42] 42 #[.slice none 0 0, .slice none 0 0]).run Tryz.prog w = .ok (.slice none 0 0) w := by kernel_rfl
/-- One cell in a row of its own. -/
theorem cls_one {w : World} {base : Nat} {u : Value} {c : List Nat} (ho : w.ownsRow base 5 1 u c.length (c.map Nod.B8)) (hb : base ≤ w.heap.size) (hc : c.length ≤ 1000000) (hx : ∀ x ∈ c, x < 256) : Nod.Cls (w.alloc (.cells #[u] 54)) base (.slice (some ⟨w.heap.size, 0, none⟩) 1 1) [c] := by
  have hbl : Below w.heap.size w (w.alloc (.cells #[u] 54)) := (Below.refl _ _).alloc (Nat.le_refl _) _
  obtain ⟨ua, uc, rfl, hu⟩ := Nod.owns_slice ho
  refine ⟨⟨_, 1, rfl, by simp, fun _ => ⟨w.heap.size, 0, rfl, hb, ⟨_, heap_alloc_new w _⟩, fun j hj => ?_⟩⟩, by simp, by simpa using hc, by simpa using hx⟩
  match j, hj with
  | 0, _ => exact ⟨ua, uc, by simp, hu, Nod.owns_sees' (Nod.owns_keep ho hbl) (by omega), Nod.owns_typed (Nod.owns_keep ho hbl)⟩
/-- Cells with one more at a place. -/
def insC (LL : List (List Nat)) (i : Nat) (c : List Nat) : List (List Nat) := LL.take i ++ ([c] ++ LL.drop i)
theorem need_ins (LL : List (List Nat)) (i : Nat) (c : List Nat) : Nod.M.need (insC LL i c) = Nod.M.need LL + (2 + Nod.M.body c) := by
  unfold insC
  have h : Nod.M.need LL = Nod.M.need (LL.take i) + Nod.M.need (LL.drop i) := by rw [← Nod.M.need_append, List.take_append_drop]
  rw [Nod.M.need_append, Nod.M.need_append, h]
  show _ + ((2 + Nod.M.body c + 0) + _) = _
  omega
theorem there_no {LL : List (List Nat)} {t : Int} (h : ∀ c ∈ LL, T.key c ≠ t) (i : Nat) : Nod.thereK LL t i = false := by
  unfold Nod.thereK
  by_cases hi : i < LL.length
  · rw [decide_eq_false (h _ (Nod.getD_cell LL hi)), Bool.and_false]
  · rw [decide_eq_false hi, Bool.false_and]

/-- What planned tells. -/
def PlP (w : World) (G : Nat) (at_ : Int) (LL : List (List Nat)) (key : Int) (c : List Nat) (e : Ending) (w' : World) : Prop :=
  ∃ i ws g, Nod.PosK LL key i ∧ e = .returned (.agg #[.pointer (some ⟨G, 0, none⟩), .slice none 0 0, .int .i64 0, ws, .int .i64 0]) ∧ w'.ownsRow w.heap.size 229 2 ws 1 [.int .i64 at_, .slice (some ⟨g, 0, none⟩) 512 512] ∧ Nod.Pg w' g (Nod.M.page 1 0 (insC LL i c)) ∧ w.heap.size ≤ g ∧ Below w.heap.size w w'

set_option maxRecDepth 100000 in
set_option maxHeartbeats 2000000 in
theorem planned_new {w : World} {G : Nat} (at_ : Int) {bs : Nat} {u v pv : Value} {LL : List (List Nat)} {d : List Nat} (i0 key : Int) {pl : Nat} (hp : w.ownsRow pl 104 4 pv 1 [.int .i64 at_, .int .i64 1, u, .int .i64 i0]) (hu : Nod.Cls w bs u LL) (hbs : bs ≤ w.heap.size) (h8 : ∀ c ∈ LL, 8 ≤ c.length) (hr : T.riseK LL) (hno : ∀ c ∈ LL, T.key c ≠ key) (hv : Nod.Sees w v d) (hd : d.length ≤ 113) (hdx : ∀ x ∈ d, x < 256) (hroom : Nod.M.need LL + (2 + Nod.M.body (T.shortC key d)) ≤ 505) :
    Calls Tryz.prog 86 #[.pointer (some ⟨G, 0, none⟩), pv, .agg #[.int .i64 key, v, .bool false], .slice none 0 0] w fun e w' => PlP w G at_ LL key (T.shortC key d) e w' := by
  obtain ⟨ua, uc, hue, huc⟩ := hu.slice
  obtain ⟨va, vc, hve⟩ := hv.slice
  subst hue hve
  have hLn : LL.length ≤ 1000000 := hu.2.1
  rcases hp.2 with ⟨_, h0⟩ | ⟨pb, pc, pcur, rfl, _, hpb, _⟩
  · omega
  have ha : ∀ q, (⟨pb, 0, none⟩ : Addr).add q = ⟨pb, q, none⟩ := fun q => by unfold Addr.add; split <;> simp_all
  have p0 := World.ownsRow.cells hp (g := pb) rfl 0 _ rfl
  have p1 := World.ownsRow.cells hp (g := pb) rfl 1 _ rfl
  have p2 := World.ownsRow.cells hp (g := pb) rfl 2 _ rfl
  have p3 := World.ownsRow.cells hp (g := pb) rfl 3 _ rfl
  rw [ha] at p0 p1 p2 p3
  obtain ⟨w1, hw1⟩ : ∃ w1, w1 = (w.alloc (.cells #[.int .i64 key, .slice va d.length vc, .bool false] 100)).alloc (.cells #[.pointer none, .slice none 0 0, .int .i64 0, .slice none 0 0, .int .i64 0] 170) := ⟨_, rfl⟩
  obtain ⟨qb, hqb⟩ : ∃ qb, qb = w.heap.size := ⟨_, rfl⟩
  obtain ⟨rb, hrb⟩ : ∃ rb, rb = w.heap.size + 1 := ⟨_, rfl⟩
  have hb1 : Below w.heap.size w w1 := by rw [hw1]; exact ((Below.refl _ _).alloc (Nat.le_refl _) _).alloc (by simp) _
  have HB1 := Hid.mk' hb1
  have q0 : w1.cell? ⟨qb, 0, none⟩ = some (.int .i64 key) := by rw [hw1, hqb]; simp
  have q1 : w1.cell? ⟨qb, 1, none⟩ = some (.slice va d.length vc) := by rw [hw1, hqb]; simp
  have q2 : w1.cell? ⟨qb, 2, none⟩ = some (.bool false) := by rw [hw1, hqb]; simp
  have HRb : Hid (w1.heap[rb]? = some (.cells #[.pointer none, .slice none 0 0, .int .i64 0, .slice none 0 0, .int .i64 0] 170 (0, 0))) := by
    show _ = _
    rw [hw1, hrb, ← show (w.alloc (.cells #[.int .i64 key, .slice va d.length vc, .bool false] 100)).heap.size = w.heap.size + 1 by simp]
    exact heap_alloc_new _ _
  have hs1 : w1.heap.size = w.heap.size + 2 := by rw [hw1]; simp
  obtain ⟨w2, hw2⟩ : ∃ w2, w2 = (w1.alloc (.cells #[.pointer (some ⟨G, 0, none⟩), .slice none 0 0, .int .i64 0, .slice none 0 0, .int .i64 0] 170)) := ⟨_, rfl⟩
  obtain ⟨C, hC⟩ : ∃ C, C = w1.heap.size := ⟨_, rfl⟩
  have hb2 : Below w1.heap.size w1 w2 := by rw [hw2]; exact (Below.refl _ _).alloc (Nat.le_refl _) _
  have HCh2 : Hid (Ch w2 C G (.slice none 0 0) 0 (.slice none 0 0) 0) := by show Ch _ _ _ _ _ _ _; rw [hw2, hC]; exact heap_alloc_new w1 _
  have hs2 : w2.heap.size = w1.heap.size + 1 := by rw [hw2]; simp
  obtain ⟨w3, hw3⟩ : ∃ w3, w3 = (w2.alloc (.cells #[.int .i64 at_, .int .i64 1, .slice ua LL.length uc, .int .i64 i0] 104)) := ⟨_, rfl⟩
  obtain ⟨lf, hlf⟩ : ∃ lf, lf = w2.heap.size := ⟨_, rfl⟩
  have hb3 : Below w2.heap.size w2 w3 := by rw [hw3]; exact (Below.refl _ _).alloc (Nat.le_refl _) _
  have l0 : w3.cell? ⟨lf, 0, none⟩ = some (.int .i64 at_) := by rw [hw3, hlf]; simp
  have l1 : w3.cell? ⟨lf, 1, none⟩ = some (.int .i64 1) := by rw [hw3, hlf]; simp
  have l2 : w3.cell? ⟨lf, 2, none⟩ = some (.slice ua LL.length uc) := by rw [hw3, hlf]; simp
  have HB2 := Hid.mk' (hb1.trans (hb2.mono hb1.size))
  have HB3 := Hid.mk' (HB2.out.trans (hb3.mono HB2.out.size))
  have HQ2 : Hid (w2.cell? ⟨pb, 0, none⟩ = some (.int .i64 at_) ∧ w2.cell? ⟨pb, 1, none⟩ = some (.int .i64 1) ∧ w2.cell? ⟨pb, 2, none⟩ = some (.slice ua LL.length uc) ∧ w2.cell? ⟨pb, 3, none⟩ = some (.int .i64 i0)) := ⟨cell_on HB2.out p0, cell_on HB2.out p1, cell_on HB2.out p2, cell_on HB2.out p3⟩
  have HCh3 := Hid.mk' (HCh2.out.on hb3)
  have HRb3 := Hid.mk' (row_on hb3 (row_on hb2 HRb.out))
  replace q0 := cell_on hb3 (cell_on hb2 q0)
  replace q1 := cell_on hb3 (cell_on hb2 q1)
  replace q2 := cell_on hb3 (cell_on hb2 q2)
  have HU := Hid.mk' hu
  have HV := Hid.mk' hv
  have HP := Hid.mk' hp
  have HF := Hid.mk' (Nod.find_any at_ 1 (hu.below HB3.out) h8 hr key)
  have HNo := Hid.mk' hno
  clear hu hv hp h8 hr hno p0 p1 p2 p3 ha hpb hb1 hb2 hb3 HRb HCh2
  have HOr := Hid.mk' (show w.heap.size = qb ∧ rb = qb + 1 ∧ C = qb + 2 ∧ lf = qb + 3 ∧ w3.heap.size = qb + 4 from ⟨hqb.symm, by omega, by omega, by omega, by rw [hw3]; simp; omega⟩)
  clear hs1 hs2
  go_enter Tryz.func86, Tryz.ntmps86
  go_upto_region 1 with fail
  rw [← hw1, ← hqb, show qb + 1 = rb by omega]
  clear hw1 hqb hrb
  go_upto_region 2 with fail
  rw [← hw2, ← hC]
  clear hw2 hC
  obtain ⟨p0, p1, p2, p3⟩ := HQ2.out
  go_upto_region 3 with fail
  rw [← hw3, ← hlf]
  clear hw3 p0 p1 p2 p3 HQ2 hlf
  go_wp2_with fail
  refine HF.out.mono ?_
  rintro e w4 ⟨⟨i, hpos, rfl⟩, hb4⟩
  rw [there_no HNo.out i]
  have HPos := Hid.mk' hpos
  have hil : i ≤ LL.length := hpos.1
  have HB4 := Hid.mk' (HB3.out.trans (hb4.mono HB3.out.size))
  have HCh4 := Hid.mk' (HCh3.out.on hb4)
  have HRb4 := Hid.mk' (row_on hb4 HRb3.out)
  replace q0 := cell_on hb4 q0
  replace q1 := cell_on hb4 q1
  replace q2 := cell_on hb4 q2
  replace l0 := cell_on hb4 l0
  replace l1 := cell_on hb4 l1
  replace l2 := cell_on hb4 l2
  have hz4 : w3.heap.size ≤ w4.heap.size := hb4.size
  obtain ⟨w5, hw5⟩ : ∃ w5, w5 = w4.setCell ⟨C, 1, none⟩ (.slice none 0 0) := ⟨_, rfl⟩
  have hF5 : Fr [C] w4 w5 := by rw [hw5]; exact Fr.of_set w4 ⟨C, 1, none⟩ _
  have HCh5 : Hid (Ch w5 C G (.slice none 0 0) 0 (.slice none 0 0) 0) := by show Ch _ _ _ _ _ _ _; rw [hw5]; exact HCh4.out.setS _
  have hOr := HOr.out
  have HRb5 := Hid.mk' ((hF5.2.2 rb (Array.getElem?_eq_some_iff.1 HRb4.out).1 (by simp; omega)).trans HRb4.out)
  have HB5 : Hid (Below w.heap.size w w5) := HB4.out.trans (hF5.below HB4.out.size (fun k hk => by simp at hk; omega))
  obtain ⟨_, c1, _, _, _⟩ := HCh4.out.cells
  have f1 := HCh4.out.loose 1
  have hA0 : Hid (∃ v' w', (Builtin.append_ #[42, 42] 42 #[.slice none 0 0, .slice none 0 0]).run Tryz.prog w4 = .ok v' w' ∧ (v' = .slice none 0 0 ∧ w' = w4)) := ⟨_, _, append_nils w4, rfl, rfl⟩
  have HS := Hid.mk' (store_short (.pointer (some ⟨C, 0, none⟩)) key _ d (HV.out.below HB5.out) hd)
  have hq0 := hF5.cell q0 (by simp; omega)
  have hq1 := hF5.cell q1 (by simp; omega)
  have hq2 := hF5.cell q2 (by simp; omega)
  have hl2 := hF5.cell l2 (by simp; omega)
  have HL2 := Hid.mk' hl2
  clear hb4 HF HCh3 HRb3 HB3 hpos HNo hOr hF5 q0 q1 q2 l0 l1 l2 HB2 HB1
  go_upto_region 9 with (at_builtin; refine wpList_append_run rfl _ _ 42 42 rfl _ _ rfl rfl hA0.out ?_; rintro v9 w9 ⟨rfl, rfl⟩)
  rw [← hw5]
  clear hw5 hA0 c1 f1 HRb4 HCh4 HB4
  go_wp2_with fail
  refine HS.out.mono ?_
  rintro e w6 ⟨v6, rfl, ho6, hb6⟩
  obtain ⟨c, hc⟩ : ∃ c, T.shortC key d = c := ⟨_, rfl⟩
  have hcl : c.length ≤ 123 := by rw [← hc, T.short_length]; omega
  have hcx : ∀ x ∈ c, x < 256 := by rw [← hc]; exact T.short_lt key d hdx
  rw [hc] at ho6 hroom
  have hbs5 : bs ≤ w5.heap.size := Nat.le_trans hbs HB5.out.size
  have HB6 := Hid.mk' (HB5.out.trans (hb6.mono HB5.out.size))
  have HL6 := Hid.mk' (cell_on hb6 HL2.out)
  have HCh6 := Hid.mk' (HCh5.out.on hb6)
  have HRb6 := Hid.mk' (row_on hb6 HRb5.out)
  have HC1 := cls_one (Nod.owns_base ho6 hbs5) (Nat.le_trans hbs HB6.out.size) (by omega) hcx
  obtain ⟨v6a, v6c, he6, _⟩ := owns_slice' ho6
  subst he6
  have HA2 := Hid.mk' (Nod.append_vals _ bs bs (.slice none 0 0) [] [] (World.ownsRow_nil _ _ _ _) (Nod.Vals.nil _ _) _ [c] HC1 (by simp) (by have := HB6.out.size; simp; omega))
  have HC := Hid.mk' hc
  clear hq0 hq1 hq2 hl2 HL2 HS ho6 hb6 HC1 hc HCh5 HRb5 HB5 hz4
  go_upto_region 12 with (at_builtin; refine wpList_append_run rfl _ _ 34 34 rfl _ _ rfl rfl HA2.out ?_; rintro v7 w7 ⟨us7, ho7, hV7, hg7⟩)
  replace ho7 : w7.ownsRow bs 54 1 v7 1 us7 := ho7
  replace hV7 : Nod.Vals w7 bs us7 [c] := hV7
  have hb7 : Below w6.heap.size w6 w7 := ((Below.refl _ _).alloc (Nat.le_refl _) _).grown hg7 (by simp) (fun k hk => by simp [Value.ownBlock] at hk)
  have HC7 := Hid.mk' (Nod.Cls.of (LL := [c]) ho7 hV7 (by simp) (by simp; omega) (by simpa using hcx))
  obtain ⟨v7a, v7c, he7, _⟩ := owns_slice' ho7
  subst he7
  have HB7 := Hid.mk' (HB6.out.trans (hb7.mono HB6.out.size))
  have HL7 := Hid.mk' (cell_on hb7 HL6.out)
  have HCh7 := Hid.mk' (HCh6.out.on hb7)
  have HRb7 := Hid.mk' (row_on hb7 HRb6.out)
  have HU7 := Hid.mk' (HU.out.below HB7.out)
  clear ho7 hV7 hg7 hb7 HA2 HL6 HCh6 HRb6 HB6
  obtain ⟨a2, ha2⟩ : ∃ a2, (if uc = i then ua else Option.map (fun x => x.add i) ua) = a2 := ⟨_, rfl⟩
  obtain ⟨n2, hn2⟩ : ∃ n2, LL.length - i = n2 := ⟨_, rfl⟩
  obtain ⟨c2, hc2⟩ : ∃ c2, uc - i = c2 := ⟨_, rfl⟩
  have hs1 := slice_to_c ua LL.length uc i (by omega)
  have hs2 := slice_from_c ua LL.length uc i hil a2 ha2 n2 c2 hn2 hc2
  have HT1 := Hid.mk' (HU7.out.take i hil)
  have HT2 := HU7.out.drop i hil
  rw [ha2, hn2, hc2] at HT2
  have hb7d : Below w7.heap.size w7 w7.drew := Below.drew (Below.refl _ _)
  have HK := Hid.mk' (Nod.concat24 _ _ _ (base := bs) (by have := HB7.out.size; simp; omega) (Nod.clss_three w7.drew (HT1.out.below hb7d) (HC7.out.below hb7d) (HT2.below hb7d)) (by have := Nod.M.need_bodies LL; simp; omega) (fun x hx => by
      simp at hx
      rcases hx with h | h | h
      · exact HU.out.2.2.1 x (List.mem_of_mem_take h)
      · rw [h]; omega
      · exact HU.out.2.2.1 x (List.mem_of_mem_drop h)) (fun x hx => by
      simp at hx
      rcases hx with h | h | h
      · exact HU.out.2.2.2 x (List.mem_of_mem_take h)
      · rw [h]; exact hcx
      · exact HU.out.2.2.2 x (List.mem_of_mem_drop h)))
  rw [show [LL.take i, [c], LL.drop i].flatten = insC LL i c by simp [insC]] at HK
  clear HT1 HT2 ha2 hn2 hc2 HU7 HU
  have HSt := Hid.mk' (fun (wx : World) (hb : Below w7.heap.size w7 wx) (v8 : Value) (hv8 : Nod.Cls wx bs v8 (insC LL i c)) => settle_root (HCh7.out.on hb) (lo := w.heap.size) (k := 0) (xs := []) (World.ownsRow_nil _ _ _ _) (Nat.le_trans HB7.out.size hb.size) (by omega) at_ 1 _ v8 _ i0 (insC LL i c) hv8.cells (by omega) (by unfold Nod.M.room; rw [need_ins]; omega) ⟨_, _, _, rfl⟩ (owns_keep HP.out (HB7.out.trans (hb.mono HB7.out.size))))
  have hl2 := HL7.out
  have hS := Hid.mk' (show (fun w' : World => w'.cell? ⟨lf, 2, none⟩ = some (.slice ua LL.length uc)) w7 from hl2)
  go_region_held3 (fun w' : World => w'.cell? ⟨lf, 2, none⟩ = some (.slice ua LL.length uc)) (first | exact hS.out | assumption | go_keep)
    (first | (go_at_call 146; refine HK.out.mono ?_; rintro e w8 ⟨v8, rfl, hv8, hb8⟩; have HB8 := Hid.mk' (show Below w7.heap.size w7 w8 from (hb7d.alloc (Nat.le_refl _) _).trans (hb8.mono (by simp))); have hS := Hid.mk' (show (fun w' : World => w'.cell? ⟨lf, 2, none⟩ = some (.slice ua LL.length uc)) w8 from cell_on HB8.out HL7.out); have HV8 := Hid.mk' hv8; obtain ⟨v8a, v8c, he8, _⟩ := hv8.slice; subst he8; clear hv8 hb8) | (go_at_call 145; refine (HSt.out w8 HB8.out _ HV8.out).mono ?_; rintro e w9 ⟨rfl, hP9⟩; have HP9 := Hid.mk' hP9; have hS := Hid.mk' (show (fun w' : World => w'.cell? ⟨lf, 2, none⟩ = some (.slice ua LL.length uc)) w9 from by obtain ⟨_, _, _, _, _, _, hF9⟩ := HP9.out; exact hF9.cell (cell_on HB8.out HL7.out) (by have := HOr.out; simp [Value.ownBlock]; omega)); clear hP9))
  obtain ⟨ws, g, hC9, ho9, hPg9, hg9, hF9⟩ := HP9.out
  have hOr := HOr.out
  have HB8w := Hid.mk' (HB7.out.trans (HB8.out.mono HB7.out.size))
  have HRb9 := Hid.mk' ((hF9.2.2 rb (Array.getElem?_eq_some_iff.1 (row_on HB8.out HRb7.out)).1 (by simp [Value.ownBlock]; omega)).trans (row_on HB8.out HRb7.out))
  have HB9 : Hid (Below w.heap.size w w9) := HB8w.out.trans (hF9.below HB8w.out.size (fun k hk => by simp [Value.ownBlock] at hk; omega))
  have hrlt : rb < w8.heap.size := (Array.getElem?_eq_some_iff.1 (row_on HB8.out HRb7.out)).1
  have hgr : g ≠ rb := by omega
  have hlb : w.heap.size ≤ rb := by omega
  have HCe := Hid.mk' hC9
  have HO9 := Hid.mk' ho9
  have HPg := Hid.mk' hPg9
  have HG9 := Hid.mk' (Nat.le_trans HB8w.out.size hg9)
  have HPs := Hid.mk' HPos.out
  obtain ⟨wsa, wsc, he, _⟩ := owns_slice' ho9
  subst he
  obtain ⟨y0, y1, y2, y3, y4⟩ := hC9.cells
  have z0 : w9.cell? ⟨rb, 0, none⟩ = some (.pointer none) := (cell_of_row _ _ 0 _ _ (0, 0) HRb9.out).trans rfl
  have z1 : w9.cell? ⟨rb, 1, none⟩ = some (.slice none 0 0) := (cell_of_row _ _ 1 _ _ (0, 0) HRb9.out).trans rfl
  have z2 : w9.cell? ⟨rb, 2, none⟩ = some (.int .i64 0) := (cell_of_row _ _ 2 _ _ (0, 0) HRb9.out).trans rfl
  have z3 : w9.cell? ⟨rb, 3, none⟩ = some (.slice none 0 0) := (cell_of_row _ _ 3 _ _ (0, 0) HRb9.out).trans rfl
  have z4 : w9.cell? ⟨rb, 4, none⟩ = some (.int .i64 0) := (cell_of_row _ _ 4 _ _ (0, 0) HRb9.out).trans rfl
  have fz : ∀ q, w9.frozen? ⟨rb, q, none⟩ = false := fun q => by have h1 := HRb9.out; simp [World.frozen?, h1]
  have f0 := fz 0
  have f1 := fz 1
  have f2 := fz 2
  have f3 := fz 3
  have f4 := fz 4
  clear hOr fz hC9 ho9 hPg9 hg9 hF9 HP9 HSt HK hS HL7 HCh7 HRb7 HB7 HB8 HB8w HC7 hb7d hs1 hs2 hl2 HV HP HPos HV8
  go_wp2
  refine bodyPost_ret ?_ rfl ⟨i, .slice wsa 1 wsc, g, HPs.out, rfl, ?_, ?_, HG9.out, ?_⟩
  · simp [results, Tryz.results86, go_sem, z0, z1, z2, z3, z4]
  · refine ((((((Fr.refl [rb] w9).set (a := ⟨rb, 0, none⟩) (by simp) _).set (a := ⟨rb, 1, none⟩) (by simp) _).set (a := ⟨rb, 2, none⟩) (by simp) _).set (a := ⟨rb, 3, none⟩) (by simp) _).set (a := ⟨rb, 4, none⟩) (by simp) _ : Fr [rb] w9 _).owns HO9.out (fun q hq hm => ?_)
    simp at hm
    subst hm
    obtain ⟨cur, hc⟩ := owns_type' HO9.out q hq
    have h1 := HRb9.out
    rw [hc] at h1
    simp at h1
  · rw [HC.out]
    exact Nod.Pg.on HPg.out ((((((Fr.refl [rb] w9).set (a := ⟨rb, 0, none⟩) (by simp) _).set (a := ⟨rb, 1, none⟩) (by simp) _).set (a := ⟨rb, 2, none⟩) (by simp) _).set (a := ⟨rb, 3, none⟩) (by simp) _).set (a := ⟨rb, 4, none⟩) (by simp) _ : Fr [rb] w9 _) (by simpa using hgr)
  · exact ((((HB9.out.setCell (p := ⟨rb, 0, none⟩) hlb _).setCell (p := ⟨rb, 1, none⟩) hlb _).setCell (p := ⟨rb, 2, none⟩) hlb _).setCell (p := ⟨rb, 3, none⟩) hlb _).setCell (p := ⟨rb, 4, none⟩) hlb _
end Go.Proofs.YtojkbhkjnhhkoaaGreat
namespace Go.Proofs.YtojkbhkjnhhkoaaGreat
open Go.RowKit Go.Maps Go.Sort Go.Shelf

set_option maxRecDepth 100000 in
theorem free_nils (g : Value) (w : World) : Calls Tryz.prog 52 #[g, .slice none 0 0] w fun e w' => e = .returned (.int .i64 0) ∧ w' = w := by
  go_enter Tryz.func52, Tryz.ntmps52
  go_wp2
  refine wp_loop_rounds 1 ?_
  rw [rounds_succ]
  go_wp2
  go_ret
  exact ⟨rfl, rfl⟩

/-- A page that is to be written: where, the block, the bytes. -/
abbrev WR := Nat × Nat × List Nat
def wr0 : WR := (0, 0, [])
def wrC (W : List WR) : List Value := W.flatMap fun x => [.int .i64 (x.1 : Int), .slice (some ⟨x.2.1, 0, none⟩) 512 512]
theorem wrC_length (W : List WR) : (wrC W).length = W.length * 2 := by
  unfold wrC
  induction W with
  | nil => rfl
  | cons x W ih => rw [List.flatMap_cons, List.length_append, ih, List.length_cons]; simp; omega
theorem wrC_at (W : List WR) : ∀ i, i < W.length → (wrC W)[i * 2]? = some (.int .i64 ((W.getD i wr0).1 : Int)) ∧ (wrC W)[i * 2 + 1]? = some (.slice (some ⟨(W.getD i wr0).2.1, 0, none⟩) 512 512) := by
  induction W with
  | nil => intro i hi; simp at hi
  | cons x W ih =>
    intro i hi
    cases i with
    | zero => exact ⟨rfl, rfl⟩
    | succ i =>
      obtain ⟨h1, h2⟩ := ih i (by simpa using hi)
      have e : wrC (x :: W) = .int .i64 (x.1 : Int) :: .slice (some ⟨x.2.1, 0, none⟩) 512 512 :: wrC W := rfl
      rw [e, show (i + 1) * 2 = i * 2 + 1 + 1 by omega]
      exact ⟨by simpa using h1, by rw [show i * 2 + 1 + 1 + 1 = (i * 2 + 1) + 1 + 1 by omega]; simpa using h2⟩
/-- The pages behind the writes. -/
def wrP (pg : Nat → List Nat) (W : List WR) : Nat → List Nat := W.foldl (fun p x => upd p x.1 x.2.2) pg
theorem wrP_take (pg : Nat → List Nat) (W : List WR) (k : Nat) (h : k < W.length) : wrP pg (W.take (k + 1)) = upd (wrP pg (W.take k)) (W.getD k wr0).1 (W.getD k wr0).2.2 := by
  unfold wrP
  rw [List.take_succ_eq_append_getElem h, List.foldl_append]
  simp [List.getD_eq_getElem?_getD, h]
theorem wrP_zero (pg : Nat → List Nat) : ∀ (W : List WR), (∀ x ∈ W, 1 ≤ x.1) → wrP pg W 0 = pg 0
  | [], _ => rfl
  | x :: W, h => by
    have h1 : wrP pg (x :: W) = wrP (upd pg x.1 x.2.2) W := rfl
    rw [h1, wrP_zero (upd pg x.1 x.2.2) W (fun y hy => h y (List.mem_cons_of_mem _ hy)), upd_other]
    have := h x (List.mem_cons_self ..)
    omega
/-- Pages that may be written, in blocks from lo on. -/
def WrOk (w : World) (lo : Nat) (l0 : List Nat) (W : List WR) : Prop := ∀ x ∈ W, 1 ≤ x.1 ∧ x.1 < 3968 ∧ hasL l0 x.1 = true ∧ lo ≤ x.2.1 ∧ x.2.1 < w.heap.size ∧ x.2.2.length = 512 ∧ (∀ y ∈ x.2.2, y < 256) ∧ Sees w (.slice (some ⟨x.2.1, 0, none⟩) 512 512) x.2.2

set_option maxRecDepth 100000 in
set_option maxHeartbeats 1000000 in
theorem carry_ok {P : Nat} {X : World → (Nat → List Nat) → Int → List Nat → Prop} (I : TxI P X) {w : World} {pg : Nat → List Nat} {cnt : Int} {B : List Nat} (h : X w pg cnt B) {G : Nat} (hG : Gp w G P) (hGB : G ∉ B) (h0 : bitL (pg 0) 0 = false) {lo C : Nat} {ws : Value} {lack : Int} (hC : Ch w C G (.slice none 0 0) lack ws 0) (hlo : ∀ k ∈ B, k < lo) (hCl : lo ≤ C) {W : List WR} (ho : w.ownsRow lo 229 2 ws W.length (wrC W)) (hW : WrOk w lo (pg 0) W) (hWn : W.length ≤ 1000) :
    Calls Tryz.prog 88 #[.pointer (some ⟨C, 0, none⟩)] w fun e w' => e = .returned (.int .i64 0) ∧ ∃ cnt', TxM X w w' (wrP pg W) cnt' B := by
  obtain ⟨wa, wc, he, hwc⟩ := owns_slice' ho
  subst he
  obtain ⟨c0, c1, c2, c3, c4⟩ := hC.cells
  have HI := Hid.mk' I
  have HG := Hid.mk' hG
  have HT := Hid.mk' h
  have HC := Hid.mk' hC
  have HO := Hid.mk' ho
  have HW := Hid.mk' hW
  have hCB : C ∉ B := fun hm => by have := hlo C hm; omega
  have HLo := Hid.mk' hlo
  have hCw := hC.lt
  have hGw : G < w.heap.size := World.block_lt_of_cell? _ _ hG.c0
  have HZ := Hid.mk' h0
  have HBl := Hid.mk' (I.2.1 _ _ _ _ h)
  clear h hG hC ho hW hlo h0 I c1 c2
  go_enter Tryz.func88, Tryz.ntmps88
  go_wp2
  go_loopw [20] (fun i wr => ∃ k : Nat, k ≤ W.length ∧ i = .int .i64 k ∧ ∃ cn, TxM X w wr (wrP pg (W.take k)) cn B) (fun i _ => W.length - (intOf i).toNat)
  case atStart => exact ⟨0, by omega, rfl, cnt, B, HT.out, Fr.refl _ _, fun k hk => .inl hk⟩
  case round =>
    obtain ⟨k, hk, rfl, cn, B1, hX1, hF1, hB1⟩ := hrel
    have HX1 := Hid.mk' hX1
    have HF1 := Hid.mk' hF1
    have HB1 := Hid.mk' hB1
    have HCr := Hid.mk' (HC.out.fr hF1 hCB)
    have hsz : w.heap.size ≤ wr.heap.size := hF1.2.1
    clear c0 c3 c4
    by_cases hlt : k < W.length
    · have HOr := Hid.mk' (hF1.owns HO.out (fun q hq hm => by have := HLo.out q hm; have := (HO.out.lt q hq).1; omega))
      rcases HOr.out.2 with ⟨_, h00⟩ | ⟨wb, wcap, wcur, hwv, _, hwg, _⟩
      · omega
      simp at hwv
      obtain ⟨rfl, rfl⟩ := hwv
      have ha : ∀ q, (⟨wb, 0, none⟩ : Addr).add q = ⟨wb, q, none⟩ := fun q => by unfold Addr.add; split <;> simp_all
      obtain ⟨e1, e2⟩ := wrC_at W k hlt
      have k0 := World.ownsRow.cells HOr.out (g := wb) rfl _ _ e1
      have k1 := World.ownsRow.cells HOr.out (g := wb) rfl _ _ e2
      rw [ha] at k0 k1
      have hmem : W.getD k wr0 ∈ W := by simp [List.getD_eq_getElem?_getD, hlt]
      obtain ⟨m1, m2, m3, m4, m5, m6, m7, m8⟩ := HW.out _ hmem
      have HP1 : Hid (wrP pg (W.take (k + 1)) = upd (wrP pg (W.take k)) (W.getD k wr0).1 (W.getD k wr0).2.2) := wrP_take pg W k hlt
      have hz0 : wrP pg (W.take k) 0 = pg 0 := wrP_zero pg _ (fun x hx => (HW.out x (List.mem_of_mem_take hx)).1)
      obtain ⟨⟨an, gn, ln⟩, hx⟩ : ∃ x, W.getD k wr0 = x := ⟨_, rfl⟩
      rw [hx] at k0 k1 m1 m2 m3 m4 m5 m6 m7 m8 HP1
      simp only at k0 k1 m1 m2 m3 m4 m5 m6 m7 m8 HP1
      have HS1 := Hid.mk' (hF1.sees m8 (fun a n c e hm => by simp at e; rw [← e.1] at hm; have := HLo.out _ hm; simp at this; omega))
      obtain ⟨w4, hw4⟩ : ∃ w4, w4 = wr.alloc (.cells #[.int .i64 an, .slice (some ⟨gn, 0, none⟩) 512 512] 229) := ⟨_, rfl⟩
      obtain ⟨xb, hxb⟩ : ∃ xb, xb = wr.heap.size := ⟨_, rfl⟩
      have hb4 : Below wr.heap.size wr w4 := by rw [hw4]; exact (Below.refl _ _).alloc (Nat.le_refl _) _
      have HB4 := Hid.mk' hb4
      have x0 : w4.cell? ⟨xb, 0, none⟩ = some (.int .i64 an) := by rw [hw4, hxb]; simp
      have x1 : w4.cell? ⟨xb, 1, none⟩ = some (.slice (some ⟨gn, 0, none⟩) 512 512) := by rw [hw4, hxb]; simp
      obtain ⟨y0, _, _, _, _⟩ := (HCr.out.on hb4).cells
      have hb4d : Below wr.heap.size wr w4.drew := hb4.drew
      have HWr := gwrite_ok HI.out (HI.out.on HX1.out hb4d) ((HG.out.fr HF1.out hGB).on hb4d) (by rw [hz0]; exact HZ.out) an m2 (by rw [hz0]; exact m3) (some ⟨gn, 0, none⟩) 512 ln m6 m7 (HS1.out.below hb4d) (fun x hx hm => by
        simp at hx
        subst hx
        rcases HB1.out _ hm with h | h
        · have := HLo.out _ h; simp at this; omega
        · simp at h; omega)
      replace HWr := Hid.mk' HWr
      have hS := Hid.mk' (show (fun w' : World => w'.cell? ⟨C, 0, none⟩ = some (.pointer (some ⟨G, 0, none⟩)) ∧ w'.cell? ⟨xb, 0, none⟩ = some (.int .i64 an) ∧ w'.cell? ⟨xb, 1, none⟩ = some (.slice (some ⟨gn, 0, none⟩) 512 512)) w4 from ⟨y0, x0, x1⟩)
      have hxB : xb ∉ B1 := fun hm => by have := HI.out.2.1 _ _ _ _ HX1.out xb hm; omega
      have hCB1 : C ∉ B1 := fun hm => by
        rcases HB1.out C hm with h | h
        · exact hCB h
        · omega
      clear hX1 hF1 hB1 hwg ha e1 e2 hmem m8 hb4 hx
      go_upto_region 6 with fail
      rw [← hw4, ← hxb]
      clear hw4 hxb k0 k1
      go_region_held3 (fun w' : World => w'.cell? ⟨C, 0, none⟩ = some (.pointer (some ⟨G, 0, none⟩)) ∧ w'.cell? ⟨xb, 0, none⟩ = some (.int .i64 an) ∧ w'.cell? ⟨xb, 1, none⟩ = some (.slice (some ⟨gn, 0, none⟩) 512 512)) (first | exact hS.out | assumption | go_keep)
        (first | (go_at_call 39; refine HWr.out.mono ?_; rintro e w5 ⟨rfl, hM5⟩; have HM5 := Hid.mk' hM5; have hS := Hid.mk' (show (fun w' : World => w'.cell? ⟨C, 0, none⟩ = some (.pointer (some ⟨G, 0, none⟩)) ∧ w'.cell? ⟨xb, 0, none⟩ = some (.int .i64 an) ∧ w'.cell? ⟨xb, 1, none⟩ = some (.slice (some ⟨gn, 0, none⟩) 512 512)) w5 from by obtain ⟨_, _, hF5, _⟩ := HM5.out; exact ⟨hF5.cell y0 hCB1, hF5.cell x0 hxB, hF5.cell x1 hxB⟩); clear hM5))
      have HM := Hid.mk' (HM5.out.since hb4d)
      clear x0 x1 y0 hS HWr HM5 HS1
      go_wp2
      go_roundw
      case rel => exact ⟨k + 1, by omega, by go_num, _, by rw [HP1.out]; exact TxM.step HF1.out HB1.out HM.out⟩
      case measure => simp [intOf]; omega
    · have hkl : k = W.length := by omega
      have HE : Hid (W.take k = W) := by show _ = _; rw [hkl, List.take_of_length_le (Nat.le_refl _)]
      obtain ⟨y0, y1, _, _, _⟩ := HCr.out.cells
      have hS := Hid.mk' (show (fun w' : World => w'.cell? ⟨C, 0, none⟩ = some (.pointer (some ⟨G, 0, none⟩)) ∧ w'.cell? ⟨C, 1, none⟩ = some (.slice none 0 0)) wr from ⟨y0, y1⟩)
      have HM : Hid (TxM X w wr (wrP pg (W.take k)) cn B) := ⟨B1, HX1.out, HF1.out, HB1.out⟩
      rw [HE.out] at HM
      clear hkl hX1 hF1 hB1 HE
      go_wp2_with fail
      go_region_held3 (fun w' : World => w'.cell? ⟨C, 0, none⟩ = some (.pointer (some ⟨G, 0, none⟩)) ∧ w'.cell? ⟨C, 1, none⟩ = some (.slice none 0 0)) (first | exact hS.out | assumption | go_keep)
        (first | (go_at_call 52; refine (free_nils _ wr.drew).mono ?_; rintro e w5 ⟨rfl, hw5⟩; have hS := Hid.mk' (show (fun w' : World => w'.cell? ⟨C, 0, none⟩ = some (.pointer (some ⟨G, 0, none⟩)) ∧ w'.cell? ⟨C, 1, none⟩ = some (.slice none 0 0)) w5 from by rw [hw5]; exact ⟨cell_on (Below.drew (Below.refl _ _)) y0, cell_on (Below.drew (Below.refl _ _)) y1⟩); have HB5 := Hid.mk' (show Below wr.heap.size wr w5 from by rw [hw5]; exact Below.drew (Below.refl _ _)); clear hw5))
      have HM5 := Hid.mk' (HM.out.below HI.out HB5.out)
      clear y0 y1 hS
      go_wp2
      go_ret
      exact ⟨rfl, _, HM5.out⟩
end Go.Proofs.YtojkbhkjnhhkoaaGreat
namespace Go.Proofs.YtojkbhkjnhhkoaaGreat
open Go.RowKit Go.Maps Go.Sort Go.Shelf

theorem pgL_ok (f : Nat → Nat) (hf : ∀ i, f i < 256) : (Nod.M.pg f).length = 512 ∧ ∀ y ∈ Nod.M.pg f, y < 256 := ⟨Nod.M.pg_length f, Nod.M.pg_lt hf⟩
theorem ins_lt {LL : List (List Nat)} {c : List Nat} (h : ∀ x ∈ LL, ∀ y ∈ x, y < 256) (hc : ∀ y ∈ c, y < 256) (i : Nat) : ∀ x ∈ insC LL i c, ∀ y ∈ x, y < 256 := by
  intro x hx
  unfold insC at hx
  simp at hx
  rcases hx with h1 | h1 | h1
  · exact h x (List.mem_of_mem_take h1)
  · rw [h1]; exact hc
  · exact h x (List.mem_of_mem_drop h1)

/-- What a Put of a new key leaves. -/
def NewP (X : World → (Nat → List Nat) → Int → List Nat → Prop) (w : World) (pg : Nat → List Nat) (B : List Nat) (n : Nat) (LL : List (List Nat)) (key : Int) (c : List Nat) (w' : World) : Prop :=
  ∃ i cnt', Nod.PosK LL key i ∧ TxM X w w' (upd pg n (Nod.M.pg (Nod.M.page 1 0 (insC LL i c)))) cnt' B

set_option maxRecDepth 100000 in
set_option maxHeartbeats 1000000 in
theorem fulfil_new {P : Nat} {X : World → (Nat → List Nat) → Int → List Nat → Prop} (I : TxI P X) {w : World} {pg : Nat → List Nat} {cnt : Int} {B : List Nat} (h : X w pg cnt B) {G : Nat} (hG : Gp w G P) (hGB : G ∉ B) (h0 : bitL (pg 0) 0 = false) (n : Nat) (hn1 : 1 ≤ n) (hn : n < 3968) (hh : hasL (pg 0) n = true) {bs : Nat} {u v pv : Value} {LL : List (List Nat)} {d : List Nat} (i0 key : Int) {pl : Nat} (hp : w.ownsRow pl 104 4 pv 1 [.int .i64 n, .int .i64 1, u, .int .i64 i0]) (hu : Nod.Cls w bs u LL) (hbs : bs ≤ w.heap.size) (h8 : ∀ c ∈ LL, 8 ≤ c.length) (hr : T.riseK LL) (hno : ∀ c ∈ LL, T.key c ≠ key) (hv : Nod.Sees w v d) (hd : d.length ≤ 113) (hdx : ∀ x ∈ d, x < 256) (hroom : Nod.M.need LL + (2 + Nod.M.body (T.shortC key d)) ≤ 505) :
    Calls Tryz.prog 50 #[.pointer (some ⟨G, 0, none⟩), pv, .agg #[.int .i64 key, v, .bool false]] w fun e w' => e = .returned (.tuple #[.bool false, .int .i64 0]) ∧ NewP X w pg B n LL key (T.shortC key d) w' := by
  obtain ⟨ua, uc, hue, huc⟩ := hu.slice
  obtain ⟨va, vc, hve⟩ := hv.slice
  subst hue hve
  have HLx := Hid.mk' hu.2.2.2
  have HBl := Hid.mk' (I.2.1 _ _ _ _ h)
  rcases hp.2 with ⟨_, h00⟩ | ⟨pb, pc, pcur, rfl, _, hpb, _⟩
  · omega
  have ha : ∀ q, (⟨pb, 0, none⟩ : Addr).add q = ⟨pb, q, none⟩ := fun q => by unfold Addr.add; split <;> simp_all
  have p0 := World.ownsRow.cells hp (g := pb) rfl 0 _ rfl
  have p1 := World.ownsRow.cells hp (g := pb) rfl 1 _ rfl
  have p2 := World.ownsRow.cells hp (g := pb) rfl 2 _ rfl
  rw [ha] at p0 p1 p2
  obtain ⟨w1, hw1⟩ : ∃ w1, w1 = w.alloc (.cells #[.int .i64 key, .slice va d.length vc, .bool false] 100) := ⟨_, rfl⟩
  obtain ⟨qb, hqb⟩ : ∃ qb, qb = w.heap.size := ⟨_, rfl⟩
  have hb1 : Below w.heap.size w w1 := by rw [hw1]; exact (Below.refl _ _).alloc (Nat.le_refl _) _
  have HB1 := Hid.mk' hb1
  have q0 : w1.cell? ⟨qb, 0, none⟩ = some (.int .i64 key) := by rw [hw1, hqb]; simp
  have q1 : w1.cell? ⟨qb, 1, none⟩ = some (.slice va d.length vc) := by rw [hw1, hqb]; simp
  have q2 : w1.cell? ⟨qb, 2, none⟩ = some (.bool false) := by rw [hw1, hqb]; simp
  replace p0 := cell_on hb1 p0
  replace p1 := cell_on hb1 p1
  replace p2 := cell_on hb1 p2
  have hb1d : Below w.heap.size w w1.drew := hb1.drew
  have HF := Hid.mk' (Nod.find_any (n : Int) 1 (hu.below hb1d) h8 hr key)
  have HPl := Hid.mk' (fun (wx : World) (hb : Below w.heap.size w wx) => planned_new (G := G) (n : Int) i0 key (owns_keep hp hb) (hu.below hb) (Nat.le_trans hbs hb.size) h8 hr hno (hv.below hb) hd hdx hroom)
  have HNo := Hid.mk' hno
  have HX := Hid.mk' h
  have HG := Hid.mk' hG
  have HI := Hid.mk' I
  have HZ := Hid.mk' h0
  have HH := Hid.mk' hh
  have hcx : Hid (∀ x ∈ T.shortC key d, x < 256) := T.short_lt key d hdx
  have e1 : IntKind.i64.wrap (0 : Int) = 0 := by decide
  have e2 : (1 : Int) - 1 = 0 := rfl
  clear h hG h0 hh hp hu hv h8 hr hno I ha hpb hb1
  go_enter Tryz.func50, Tryz.ntmps50
  go_upto_region 1 with fail
  rw [← hw1, ← hqb]
  clear hw1 hqb
  have hS := Hid.mk' (show (fun w' : World => w'.cell? ⟨pb, 0, none⟩ = some (.int .i64 n) ∧ w'.cell? ⟨pb, 1, none⟩ = some (.int .i64 1) ∧ w'.cell? ⟨pb, 2, none⟩ = some (.slice ua LL.length uc) ∧ w'.cell? ⟨qb, 0, none⟩ = some (.int .i64 key)) w1 from ⟨p0, p1, p2, q0⟩)
  go_region_held3 (fun w' : World => w'.cell? ⟨pb, 0, none⟩ = some (.int .i64 n) ∧ w'.cell? ⟨pb, 1, none⟩ = some (.int .i64 1) ∧ w'.cell? ⟨pb, 2, none⟩ = some (.slice ua LL.length uc) ∧ w'.cell? ⟨qb, 0, none⟩ = some (.int .i64 key)) (first | exact hS.out | assumption | go_keep)
    (first | (go_at_call 51; refine HF.out.mono ?_; rintro e w2 ⟨⟨i, hpos, rfl⟩, hb2⟩; rw [there_no HNo.out i]; have HB2 := Hid.mk' (show Below w1.heap.size w1 w2 from (Below.drew (Below.refl _ _)).trans hb2); have hS := Hid.mk' (show (fun w' : World => w'.cell? ⟨pb, 0, none⟩ = some (.int .i64 n) ∧ w'.cell? ⟨pb, 1, none⟩ = some (.int .i64 1) ∧ w'.cell? ⟨pb, 2, none⟩ = some (.slice ua LL.length uc) ∧ w'.cell? ⟨qb, 0, none⟩ = some (.int .i64 key)) w2 from ⟨cell_on HB2.out p0, cell_on HB2.out p1, cell_on HB2.out p2, cell_on HB2.out q0⟩); clear hb2 hpos))
  replace q0 := cell_on HB2.out q0
  replace q1 := cell_on HB2.out q1
  replace q2 := cell_on HB2.out q2
  have HB2w := Hid.mk' (HB1.out.trans (HB2.out.mono HB1.out.size))
  clear p0 p1 p2 hS HF
  go_wp2_with fail
  refine (HPl.out w2 HB2w.out).mono ?_
  rintro e w3 ⟨i2, ws, g, hpos, rfl, ho3, hPg3, hg3, hb3⟩
  have HPos := Hid.mk' hpos
  obtain ⟨wsa, wsc, he, _⟩ := owns_slice' ho3
  subst he
  have HB3 := Hid.mk' (HB2w.out.trans (hb3.mono HB2w.out.size))
  obtain ⟨w4, hw4⟩ : ∃ w4, w4 = w3.alloc (.cells #[.pointer (some ⟨G, 0, none⟩), .slice none 0 0, .int .i64 0, .slice wsa 1 wsc, .int .i64 0] 170) := ⟨_, rfl⟩
  obtain ⟨C, hC⟩ : ∃ C, C = w3.heap.size := ⟨_, rfl⟩
  have hb4 : Below w3.heap.size w3 w4 := by rw [hw4]; exact (Below.refl _ _).alloc (Nat.le_refl _) _
  have HB4 := Hid.mk' (HB3.out.trans (hb4.mono HB3.out.size))
  have HCh4 : Hid (Ch w4 C G (.slice none 0 0) 0 (.slice wsa 1 wsc) 0) := by show Ch _ _ _ _ _ _ _; rw [hw4, hC]; exact heap_alloc_new w3 _
  obtain ⟨y0, y1, y2, y3, y4⟩ := HCh4.out.cells
  obtain ⟨f, hf⟩ : ∃ f, Nod.M.page 1 0 (insC LL i2 (T.shortC key d)) = f := ⟨_, rfl⟩
  have hfl : ∀ i, f i < 256 := by rw [← hf]; exact Nod.M.page_lt 1 0 _ (by omega) (ins_lt HLx.out hcx.out i2)
  have hPg4 : Nod.Pg w4 g f := by rw [← hf]; exact hPg3.on (Nod.Fr.of_below (fs := []) hb4) (by simp)
  have hgw : w.heap.size ≤ g := Nat.le_trans HB2w.out.size hg3
  have HCa := Hid.mk' (carry_ok HI.out (HI.out.on HX.out HB4.out) (HG.out.on HB4.out) hGB HZ.out HCh4.out (lo := w.heap.size) HBl.out (by have := HB3.out.size; omega) (W := [(n, g, Nod.M.pg f)]) (owns_keep (Nod.owns_base ho3 HB2w.out.size) hb4) (fun x hx => by
    simp at hx
    subst hx
    exact ⟨hn1, hn, HH.out, hgw, hPg4.lt, (pgL_ok f hfl).1, (pgL_ok f hfl).2, hPg4.whole 512⟩) (by simp))
  have HFf := Hid.mk' hf
  clear hpos ho3 hPg3 hg3 hb3 hb4 hPg4 hf HPl q0 q1 q2
  go_upto_region 3 with fail
  rw [← hw4, ← hC]
  clear hw4 hC
  go_wp2_with fail
  refine HCa.out.mono ?_
  rintro e w5 ⟨rfl, cnt', hM5⟩
  have HM5 := Hid.mk' (hM5.since HB4.out)
  clear hM5 HCa y0 y1 y2 y3 y4
  go_wp2
  go_ret2
  exact ⟨rfl, i2, cnt', HPos.out, by rw [HFf.out]; exact HM5.out⟩

set_option maxRecDepth 100000 in
set_option maxHeartbeats 1000000 in
theorem tput_new {P : Nat} {X : World → (Nat → List Nat) → Int → List Nat → Prop} (I : TxI P X) {w : World} {pg : Nat → List Nat} {cnt : Int} {B : List Nat} (h : X w pg cnt B) {G : Nat} (hG : Gp w G P) (hGB : G ∉ B) (h0 : bitL (pg 0) 0 = false) (n : Nat) (hn1 : 1 ≤ n) (hn : n < 3968) (hh : hasL (pg 0) n = true) {v : Value} {LL : List (List Nat)} {d : List Nat} (key : Int) (hK : KnP (pg n) 1 LL) (hno : ∀ c ∈ LL, T.key c ≠ key) (hv : Nod.Sees w v d) (hd : d.length ≤ 113) (hdx : ∀ x ∈ d, x < 256) (hroom : Nod.M.need LL + (2 + Nod.M.body (T.shortC key d)) ≤ 505) :
    Calls Tryz.prog 20 #[.pointer (some ⟨G, 0, none⟩), .int .i64 n, .int .i64 key, v] w fun e w' => e = .returned (.tuple #[.bool false, .int .i64 0]) ∧ NewP X w pg B n LL key (T.shortC key d) w' := by
  have HD := Hid.mk' (down_leaf I h hG h0 n hn hh hK key)
  obtain ⟨_, _, hkc, hrise, _⟩ := hK
  have HFu := Hid.mk' (fun (wx : World) (hb : Below w.heap.size w wx) (pv u : Value) (hp : wx.ownsRow w.heap.size 104 4 pv 1 [.int .i64 n, .int .i64 1, u, .int .i64 0]) (hu : Nod.Cls wx w.heap.size u LL) => fulfil_new I (I.on h hb) (hG.on hb) hGB h0 n hn1 hn hh 0 key hp hu hb.size hkc.eight hrise hno (hv.below hb) hd hdx hroom)
  obtain ⟨va, vc, rfl⟩ := hv.slice
  clear h hG h0 hh hno hv hkc hrise
  go_enter Tryz.func20, Tryz.ntmps20
  go_wp2_with fail
  refine HD.out.mono ?_
  rintro e w1 ⟨pv, u, rfl, hp, hu, hb1⟩
  have HB1 := Hid.mk' hb1
  have HF := Hid.mk' (HFu.out w1 hb1 pv u hp hu)
  obtain ⟨pa, pc, rfl, _⟩ := owns_slice' hp
  clear hp hu hb1 HFu HD
  go_wp2_with fail
  refine HF.out.mono ?_
  rintro e w2 ⟨rfl, i, cnt', hpos, hM⟩
  have HM := Hid.mk' (hM.since HB1.out)
  have HPos := Hid.mk' hpos
  clear hM hpos HF
  go_wp2
  go_ret2
  exact ⟨rfl, i, cnt', HPos.out, HM.out⟩
end Go.Proofs.YtojkbhkjnhhkoaaGreat
