/-
  The contracts of maps.Keys and slices.Sorted at a map from numbers; a map from numbers to slices that the call made.
  The contracts of a committed page that lies in base, and of Read of one.
  The contract of Read of a page that the transaction has not written, and that lies in base.
  The contracts of a committed page wherever it lies, and of Read.
  The contract of a transaction's pages: its own pages, their numbers rising.
-/
import Derived.Test.YtjimhikfmccicaaGreatMg16
import Derived.Test.YtjimhikfmccicaaGreatPx
import Derived.Test.YtjimhikfmccicaaGreatMg4
import Derived.Test.YtjimhikfmccicaaGreatMg10
namespace Go.Proofs.YtjimhikfmccicaaGreat
open Go.RowKit Go.Maps Go.Sort Go.Shelf

/-- slices.Sort's two contracts, at the fence that asks nothing. -/
theorem sortsA (m : Nat) : AnyZI.SortsIn Tryz.prog sortedA_ren Fence.wide m :=
  ⟨fun blk off cap ss W hH hblk hsz => callsIn_wide.2 (AnyM.slices_Sort_int sortA blk off cap ss W hH hblk hsz),
   fun p cap W => callsIn_wide.2 (AnyM.slices_Sort_int_none sortA p cap W)⟩
theorem keys_any (mb : Option Nat) (w : World) : Calls Tryz.prog 103 #[.map mb] w fun e w' => e = .returned (.func (.func 123) #[] #[.pointer (some ⟨w.heap.size, 0, none⟩)]) ∧ w' = w.alloc (.cells #[.map mb] 90) :=
  (callsIn_wide (n := 5)).1 (AnyZI.keys_in keysA Fence.wide 5 trivial rfl mb w)
set_option maxHeartbeats 1000000 in
theorem sorted_any {H : Type} (b nn : Nat) (D0 : DataW H) (R : Value → Option (DataW H × List MemPlace)) (w : World) (hown : w.ownsMap Tryz.prog 3 R b nn D0) (hmax : Maps.size D0 ≤ 100000) :
    Calls Tryz.prog 77 #[.func (.func 123) #[] #[.pointer (some ⟨w.heap.size, 0, none⟩)]] (w.alloc (.cells #[.map (some b)] 90)) fun e w' => ∃ (v : Value) (ss : List Int), e = .returned v ∧ ss.Perm (intKeys D0) ∧
      w'.ownsRow (w.heap.size + 1) 3 1 v ss.length ((ss.mergeSort (fun x y => decide (x ≤ y))).map encZ) ∧ (v = .slice none 0 0 ↔ ss = []) ∧ Below (w.heap.size + 1) (w.alloc (.cells #[.map (some b)] 90)) w' := by
  have hbl := hown.lt
  have hseq : SeqGives Fence.wide 2 Tryz.prog 123 #[.pointer (some ⟨w.heap.size, 0, none⟩)] encZ (fun ss => ss.Perm (intKeys D0)) (Maps.size D0) (w.alloc (.cells #[.map (some b)] 90)) :=
    AnyZI.keys_gives (ρ := keysA_ren) { keysA with } Fence.wide _ trivial rfl (by omega) w.heap.size b nn D0 _ (by simp) (by simp) (by
      obtain ⟨es, clock, hb, Ft, hs, hD⟩ := hown
      exact ⟨es, clock, (Below.heap_alloc _ _ b hbl).trans hb, Ft, hs, hD⟩)
  have cS := AnyZI.sorted_in sortedA Fence.wide 5 trivial trivial trivial trivial rfl (by omega) (sortsA _) (enters_of Tryz.func107 (by kernel_rfl) rfl) 123 #[.pointer (some ⟨w.heap.size, 0, none⟩)] trivial (enters_of Tryz.func123 (by kernel_rfl) rfl) _ _ (by unfold maxLen; omega) (by omega) _ hseq
  change CallsIn _ _ Tryz.prog 77 _ _ _ at cS
  refine ((callsIn_wide (n := 5)).1 cS).mono ?_
  rintro e w' ⟨v, ss, rfl, hS, hrow, hnil, hb⟩
  have h9 : w'.ownsRow (w.alloc (.cells #[.map (some b)] 90)).heap.size 3 1 v ss.length ((ss.mergeSort (fun x y => decide (x ≤ y))).map encZ) := hrow
  exact ⟨v, ss, rfl, hS, by simpa using h9, hnil, by simpa using hb⟩

theorem sort_is {ss ks : List Int} (hp : ss.Perm ks) (hk : ks.Pairwise (· < ·)) : ss.mergeSort (fun x y => decide (x ≤ y)) = ks := by
  have h1 : (ss.mergeSort (fun x y => decide (x ≤ y))).Perm ks := (List.mergeSort_perm _ _).trans hp
  have h2 := List.pairwise_mergeSort (le := fun x y : Int => decide (x ≤ y)) (fun a b c h1 h2 => by simp at *; omega) (fun a b => by simp; omega) ss
  refine h1.eq_of_pairwise ?_ h2 (hk.imp (fun h => by simp; omega))
  intro a b _ _ h3 h4
  simp at h3 h4
  omega

/-- How a map's values are read: as they are. -/
def heldR (v : Value) : Option (DataW Value × List MemPlace) := some (.held v, [])
/-- A map from numbers to slices at block ob: its keys rise. -/
def ents (E : List (Nat × Value)) : DataW Value := .map (E.map fun e => (Lit.int .i64 (e.1 : Int), DataW.held e.2))
def Mo (w : World) (ob : Nat) (E : List (Nat × Value)) : Prop := w.ownsMap Tryz.prog 3 heldR ob 5000 (ents E)
theorem Mo.lt {w : World} {ob : Nat} {E : List (Nat × Value)} (h : Mo w ob E) : ob < w.heap.size := World.ownsMap.lt h
theorem Mo.fr {w w' : World} {ob : Nat} {E : List (Nat × Value)} (h : Mo w ob E) {fs : List Nat} (hF : Fr fs w w') (hn : ob ∉ fs) : Mo w' ob E := by
  obtain ⟨es, clock, hb, r⟩ := h
  exact ⟨es, clock, (hF.2.2 ob (Array.getElem?_eq_some_iff.1 hb).1 hn).trans hb, r⟩
theorem Mo.on {w w' : World} {ob : Nat} {E : List (Nat × Value)} (h : Mo w ob E) (hb : Below w.heap.size w w') : Mo w' ob E := h.fr (Fr.of_below (fs := []) hb) (by simp)
theorem Mo.empty {w : World} {ob : Nat} (h : w.heap[ob]? = some (.map #[] 0)) : Mo w ob [] := ⟨#[], 0, h, ⟨by simp, MapKept.stamped_empty 0, by simp⟩, by simp, rfl⟩

theorem same_int (a k : Nat) : Lit.sameKey (.int .i64 (a : Int)) (.int .i64 (k : Int)) = decide (a = k) := by
  by_cases h : a = k
  · subst h; simp [Lit.sameKey]
  · have : ¬ ((a : Int) = (k : Int)) := by omega
    simp [Lit.sameKey, h, this]
theorem find_ents (E : List (Nat × Value)) (k : Nat) : (E.map fun e => (Lit.int .i64 (e.1 : Int), DataW.held e.2)).find? (fun p => p.1.sameKey (.int .i64 (k : Int))) = (E.find? (fun e => decide (e.1 = k))).map fun e => (Lit.int .i64 (e.1 : Int), DataW.held e.2) := by
  induction E with
  | nil => rfl
  | cons x E ih =>
    rw [List.map_cons, List.find?_cons, List.find?_cons, same_int]
    cases decide (x.1 = k) with
    | true => rfl
    | false => exact ih
theorem atKey_ents (E : List (Nat × Value)) (k : Nat) (zd : DataW Value) : (ents E).atKey (.int .i64 (k : Int)) zd = match E.find? (fun e => decide (e.1 = k)) with | some e => .held e.2 | none => zd := by
  unfold ents DataW.atKey
  simp only [find_ents]
  cases E.find? (fun e => decide (e.1 = k)) <;> rfl
def insN (x : Nat × Value) : List (Nat × Value) → List (Nat × Value)
  | [] => [x]
  | y :: r => if x.1 < y.1 then x :: y :: r else y :: insN x r
def putE (k : Nat) (v : Value) (E : List (Nat × Value)) : List (Nat × Value) := insN (k, v) (E.filter fun e => !decide (e.1 = k))
theorem insert_ents (x : Nat × Value) (E : List (Nat × Value)) : DataW.insert (Lit.int .i64 (x.1 : Int), DataW.held x.2) (E.map fun e => (Lit.int .i64 (e.1 : Int), DataW.held e.2)) = (insN x E).map fun e => (Lit.int .i64 (e.1 : Int), DataW.held e.2) := by
  induction E with
  | nil => rfl
  | cons y E ih =>
    rw [List.map_cons, DataW.insert, insN]
    have e : Lit.before (.int .i64 (x.1 : Int)) (.int .i64 (y.1 : Int)) = decide (x.1 < y.1) := by simp [Lit.before]
    rw [e]
    by_cases h : x.1 < y.1
    · simp [h]
    · simp only [h, decide_false, Bool.false_eq_true, if_false, List.map_cons, ih]
theorem put_ents (E : List (Nat × Value)) (k : Nat) (v : Value) : (ents E).put (.int .i64 (k : Int)) (.held v) = ents (putE k v E) := by
  unfold ents DataW.put putE
  simp only [List.filter_map]
  rw [← insert_ents]
  congr 2
  congr 1
  apply List.filter_congr
  intro e _
  simp [same_int]
theorem insN_length (x : Nat × Value) (E : List (Nat × Value)) : (insN x E).length = E.length + 1 := by
  induction E with
  | nil => rfl
  | cons y E ih =>
    rw [insN]
    split
    · simp
    · simp [ih]
theorem zeroB (w : World) : (zeroValue 54).run Tryz.prog w = .ok (.slice none 0 0) w := by kernel_rfl
theorem wfN {k : Nat} (h : k ≤ 100000) : (Lit.int .i64 (k : Int)).wf = true := by
  simp [Lit.wf, IntKind.min, IntKind.max, IntKind.signed, IntKind.bits]
  omega
/-- What is found in a map from numbers to slices. -/
theorem Mo.get {w : World} {ob : Nat} {E : List (Nat × Value)} (h : Mo w ob E) (c : Bool) {k : Nat} (hk : k ≤ 100000) :
    (Instr.lookup 90 (.map (some ob)) (.int .i64 (k : Int)) c).run Tryz.prog w = match E.find? (fun e => decide (e.1 = k)) with
      | some e => .ok (if c then .tuple #[e.2, .bool true] else e.2) w
      | none => .ok (if c then .tuple #[.slice none 0 0, .bool false] else .slice none 0 0) w := by
  obtain ⟨es, clock, hb, F, _, hD⟩ := h
  rcases Maps.fit_look c (lawI) Tryz.underlying90 (zeroB w) hb F (keyOf_int_mk Tryz.underlying3 (wfN hk)) with ⟨hrun, _, hat⟩ | ⟨e0, y, _, _, hrun, hR, hat, _⟩
  · have h1 := hat .nil
    rw [← hD, atKey_ents] at h1
    cases hf : E.find? (fun e => decide (e.1 = k)) with
    | none => exact hrun
    | some e => rw [hf] at h1; cases h1
  · have h1 := hat .nil
    rw [← hD, atKey_ents] at h1
    obtain rfl : (DataW.held e0.val, []) = y := by simpa [heldR] using hR
    cases hf : E.find? (fun e => decide (e.1 = k)) with
    | none => rw [hf] at h1; cases h1
    | some e =>
      rw [hf] at h1
      obtain h9 : e.2 = e0.val := by simpa using h1
      show _ = Result.ok (if c = true then Value.tuple #[e.2, .bool true] else e.2) w
      rw [h9]
      exact hrun
theorem Mo.put {w : World} {ob : Nat} {E : List (Nat × Value)} (h : Mo w ob E) {k : Nat} (hk : k ≤ 100000) (v : Value) (hE : (putE k v E).length ≤ 5000) :
    ∃ w', (Instr.mapUpdate 90 (.map (some ob)) (.int .i64 (k : Int)) v).run Tryz.prog w = .ok () w' ∧ Mo w' ob (putE k v E) ∧ Fr [ob] w w' := by
  obtain ⟨w', hr, ho, hg⟩ := World.ownsMap.update h lawI Tryz.underlying90 (by unfold maxLen; omega) (keyOf_int_mk Tryz.underlying3 (wfN hk)) (show heldR v = some (.held v, []) from rfl)
  rw [put_ents] at ho
  refine ⟨w', hr, ?_, Fr.of_grown hg⟩
  obtain ⟨es, clock, hb, F, _, hD⟩ := ho
  refine ⟨es, clock, hb, F, ?_, hD⟩
  have e1 : es.size = ((es.toList.map (WideElems.rg Tryz.prog 3 heldR)).foldr DataW.insert []).length := by rw [length_sorted]; simp
  unfold ents at hD
  have e2 := congrArg (fun d : DataW Value => match d with | .map l => l.length | _ => 0) hD
  simp only [List.length_map] at e2
  rw [e1, ← e2]
  exact hE
theorem intKeys_ents (E : List (Nat × Value)) : intKeys (ents E) = E.map (fun e => (e.1 : Int)) := by
  unfold intKeys ents
  simp only [List.map_map, Function.comp_def]
  rfl
theorem size_ents (E : List (Nat × Value)) : Maps.size (ents E) = E.length := by simp [Maps.size, ents]

theorem zeroI' (w : World) : (zeroValue 3).run Tryz.prog w = .ok (.int .i64 0) w := by kernel_rfl
/-- What is found in a map from numbers to numbers. -/
theorem Mo.getI {w : World} {ob : Nat} {E : List (Nat × Value)} (h : Mo w ob E) (c : Bool) {k : Nat} (hk : k ≤ 100000) :
    (Instr.lookup 77 (.map (some ob)) (.int .i64 (k : Int)) c).run Tryz.prog w = match E.find? (fun e => decide (e.1 = k)) with
      | some e => .ok (if c then .tuple #[e.2, .bool true] else e.2) w
      | none => .ok (if c then .tuple #[.int .i64 0, .bool false] else .int .i64 0) w := by
  obtain ⟨es, clock, hb, F, _, hD⟩ := h
  rcases Maps.fit_look c (lawI) Tryz.underlying77 (zeroI' w) hb F (keyOf_int_mk Tryz.underlying3 (wfN hk)) with ⟨hrun, _, hat⟩ | ⟨e0, y, _, _, hrun, hR, hat, _⟩
  · have h1 := hat .nil
    rw [← hD, atKey_ents] at h1
    cases hf : E.find? (fun e => decide (e.1 = k)) with
    | none => exact hrun
    | some e => rw [hf] at h1; cases h1
  · have h1 := hat .nil
    rw [← hD, atKey_ents] at h1
    obtain rfl : (DataW.held e0.val, []) = y := by simpa [heldR] using hR
    cases hf : E.find? (fun e => decide (e.1 = k)) with
    | none => rw [hf] at h1; cases h1
    | some e =>
      rw [hf] at h1
      obtain h9 : e.2 = e0.val := by simpa using h1
      show _ = Result.ok (if c = true then Value.tuple #[e.2, .bool true] else e.2) w
      rw [h9]
      exact hrun
theorem made_512 : madeCells (Value.int .u8 0).cells (512 * 1) = ((nul 512).map B8).toArray := by
  apply Array.ext'
  rw [show (Value.int .u8 0).cells = #[Value.int .u8 0] from rfl, toList_madeCells_one]
  unfold nul
  rw [List.map_replicate]
  rfl
theorem make_512 (w : World) : (Instr.makeSlice 54 (.int .i64 512) (.int .i64 512)).run Tryz.prog w = .ok (.slice (some ⟨w.heap.size, 0, none⟩) 512 512) (w.alloc (.cells ((nul 512).map B8).toArray 5)) := by
  obtain ⟨i0, hi, hz0, hz1, hz2⟩ := info_parts Tryz.info5
  have h := run_makeSlice w 54 5 i0 _ Tryz.underlying54 hi hz0 .i64 .i64 512 512 (by decide) (by decide) (by rw [hz1]; decide) (by rw [hz2]; decide) (by decide)
  rw [hz1, show (512 : Int).toNat = 512 from rfl, made_512] at h
  exact h
/-- Page k of what bytes are. -/
def pageB (s : List Nat) (k : Nat) : List Nat := (s.drop (k * 512)).take 512 ++ (nul 512).drop ((s.drop (k * 512)).take 512).length
theorem nul_length (n : Nat) : (nul n).length = n := by unfold nul; simp
theorem pageB_length (s : List Nat) (k : Nat) : (pageB s k).length = 512 := by
  unfold pageB
  rw [List.length_append, List.length_drop, nul_length, List.length_take]
  omega

set_option maxRecDepth 100000 in
set_option maxHeartbeats 1000000 in
theorem page_base {w : World} {P D n : Nat} {A : List AF} {F : List Nat} (h : Dz w D n A F) (hS : Ss w P D) (vc ve : Int) (pb : Nat) {E : List (Nat × Value)} (hM : Mo w pb E) (k : Nat) (hk : k ≤ 4095) (hE : E.find? (fun e => decide (e.1 = k)) = none) :
    Calls Tryz.prog 52 #[.pointer (some ⟨P, 0, none⟩), .agg #[.int .i64 vc, .int .i64 ve, .map (some pb)], .int .i64 (k : Int)] w fun e w' => ∃ g, e = .returned (.slice (some ⟨g, 0, none⟩) 512 512) ∧ Rw w' (.slice (some ⟨g, 0, none⟩) 512 512) (pageB (seenA A baseN) k) ∧ w.heap.size ≤ g ∧ Below w.heap.size w w' := by
  have HZ := Hid.mk' h
  have HS := Hid.mk' hS
  obtain ⟨w1, hw1⟩ : ∃ w1, w1 = w.alloc (.cells #[.int .i64 vc, .int .i64 ve, .map (some pb)] 89) := ⟨_, rfl⟩
  obtain ⟨bb, hbb⟩ : ∃ bb, bb = w.heap.size := ⟨_, rfl⟩
  have HB1 : Hid (Below w.heap.size w w1) := by rw [hw1]; exact (Below.refl _ _).alloc (Nat.le_refl _) _
  have k2 : w1.cell? ⟨bb, 2, none⟩ = some (.map (some pb)) := by rw [hw1, hbb]; simp
  have hgt := (hM.on HB1.out).getI true (k := k) (by omega)
  rw [hE] at hgt
  simp only [if_true] at hgt
  have hmk := make_512 w1
  obtain ⟨w2, hw2⟩ : ∃ w2, w2 = w1.alloc (.cells ((nul 512).map B8).toArray 5) := ⟨_, rfl⟩
  obtain ⟨g, hg⟩ : ∃ g, g = w1.heap.size := ⟨_, rfl⟩
  have HB2 : Hid (Below w.heap.size w w2) := by rw [hw2]; exact HB1.out.alloc HB1.out.size _
  have HR2 : Hid (w2.heap[g]? = some (.cells ((nul 512).map B8).toArray 5 (0, 0))) := by rw [hw2, hg]; exact heap_alloc_new w1 _
  have hwg : w.heap.size ≤ g := by rw [hg]; exact HB1.out.size
  rw [← hw2, ← hg] at hmk
  obtain ⟨s, hs⟩ : ∃ s, ((seenA A baseN).drop (k * 512)).take 512 = s := ⟨_, rfl⟩
  have hs5 : s.length ≤ 512 := by rw [← hs, List.length_take]; omega
  have HRd := Hid.mk' (sread_any (HZ.out.on HB2.out) (HS.out.on HB2.out) baseN nam_base (k * 512) 512 (by omega) (by omega) s hs)
  rw [show ((k * 512 : Nat) : Int) = (k : Int) * 512 by omega] at HRd
  have HP : Hid (pageB (seenA A baseN) k = s ++ (nul 512).drop s.length) := by show _ = _; unfold pageB; rw [hs]
  clear hs
  clear h hS hM hE
  go_enter Tryz.func52, Tryz.ntmps52
  go_upto_region 1 with fail
  rw [← hw1, ← hbb]
  clear hw1 hbb hw2 hg
  go_wp2_with fail
  refine HRd.out.mono ?_
  rintro e w3 ⟨a, c, rfl, hr, ho, hb3⟩
  obtain ⟨w4, hr4, hg4, hF4⟩ := cprow w3 g 0 512 512 5 (nul 512) s (row_on hb3 HR2.out) _ hr.sees hs5 (by rw [nul_length]; omega)
  rw [List.take_zero, List.nil_append, Nat.zero_add, ← HP.out] at hg4
  have HG4 := Hid.mk' hg4
  have HB3 := Hid.mk' (HB2.out.trans (hb3.mono HB2.out.size))
  have HB4 := Hid.mk' (HB3.out.trans (hF4.below HB3.out.size (by simp; omega)))
  clear hr ho hb3 hg4 hF4 HRd hgt hmk
  go_wp2
  go_ret
  exact ⟨_, rfl, rw_row HG4.out (pageB_length _ _) (by omega), hwg, HB4.out⟩

set_option maxRecDepth 100000 in
set_option maxHeartbeats 1000000 in
theorem read_base {w : World} {P D n : Nat} {A : List AF} {F : List Nat} {md : Int} {lb : Nat} {c st vc ve : Int} {pb : Nat} {cnt : Int} {ob : Nat} {ma : Option Addr} {mn mc : Nat} {tl : Int} {E Ep : List (Nat × Value)} (h : Dz w D n A F) (hP : Pg w P D md lb c st vc ve (some pb) cnt (some ob) ma mn mc tl) (hst : st = 2 ∨ st = 3) (hMp : Mo w pb Ep) (k : Nat) (hk : k ≤ 4095) (hEp : Ep.find? (fun e => decide (e.1 = k)) = none) (hM : Mo w ob E) (hE : E.find? (fun e => decide (e.1 = k)) = none) :
    Calls Tryz.prog 28 #[.pointer (some ⟨P, 0, none⟩), .int .i64 (k : Int)] w fun e w' => ∃ g, e = .returned (.tuple #[.slice (some ⟨g, 0, none⟩) 512 512, .int .i64 0]) ∧ Rw w' (.slice (some ⟨g, 0, none⟩) 512 512) (pageB (seenA A baseN) k) ∧ w.heap.size ≤ g ∧ Below w.heap.size w w' := by
  have HI := Hid.mk' (inside_any (P := P) (st := st) (by omega) hP.c5)
  rw [show insE st = 0 by unfold insE; rw [if_neg (by omega), if_neg (by omega)]] at HI
  have HN := Hid.mk' (ispage_any (k : Int) w)
  rw [show isPg (k : Int) = true by unfold isPg; simp; omega] at HN
  obtain ⟨x6, x7, x8, _, x10, _, _⟩ := hP.tx
  have hgt := hM.get true (k := k) (by omega)
  rw [hE] at hgt
  simp only [if_true] at hgt
  have HPb := Hid.mk' (fun (wx : World) (hb : Below w.heap.size w wx) => page_base (h.on hb) (hP.on hb).ss vc ve pb (hMp.on hb) k hk hEp)
  have HR := Hid.mk' (fun (wx : World) (hb : Below w.heap.size w wx) => refused_any (P := P) (hP.on hb).c1)
  clear h hM hE hMp hEp hst
  go_enter Tryz.func28, Tryz.ntmps28
  go_wp2_with fail
  refine HI.out.mono ?_
  rintro e w1 ⟨rfl, hw⟩
  obtain rfl := hw.symm
  clear hw HI
  go_wp2_with fail
  refine HN.out.mono ?_
  rintro e w1 ⟨rfl, hw⟩
  obtain rfl := hw.symm
  clear hw HN
  go_upto_region 9 with fail
  have hS := Hid.mk' (show (fun w' : World => w'.cell? ⟨P, 6, none⟩ = some (.int .i64 vc) ∧ w'.cell? ⟨P, 7, none⟩ = some (.int .i64 ve) ∧ w'.cell? ⟨P, 8, none⟩ = some (.map (some pb))) w from ⟨x6, x7, x8⟩)
  go_region_held3 (fun w' : World => w'.cell? ⟨P, 6, none⟩ = some (.int .i64 vc) ∧ w'.cell? ⟨P, 7, none⟩ = some (.int .i64 ve) ∧ w'.cell? ⟨P, 8, none⟩ = some (.map (some pb))) (first | exact hS.out | assumption | go_keep)
    (first | (go_at_call 52; refine (HPb.out w.drew (Below.drew (Below.refl _ _))).mono ?_; rintro e w4 ⟨g, rfl, hr, hg, hb⟩; have HRr := Hid.mk' hr; have HBr := Hid.mk' (show Below w.heap.size w w4 from (Below.drew (Below.refl _ _)).trans hb); have HGr := Hid.mk' (show w.heap.size ≤ g from hg); have hS := Hid.mk' (show (fun w' : World => w'.cell? ⟨P, 6, none⟩ = some (.int .i64 vc) ∧ w'.cell? ⟨P, 7, none⟩ = some (.int .i64 ve) ∧ w'.cell? ⟨P, 8, none⟩ = some (.map (some pb))) w4 from ⟨cell_on HBr.out x6, cell_on HBr.out x7, cell_on HBr.out x8⟩); clear hr hg hb))
  clear hS HPb hgt
  go_wp2_with fail
  refine (HR.out w4 HBr.out).mono ?_
  rintro e w5 ⟨rfl, hw⟩
  obtain rfl := hw.symm
  clear hw HR
  go_wp2
  go_ret2
  exact ⟨_, rfl, HRr.out, HGr.out, HBr.out⟩

/-- The page that lies at p in bytes; a map of places; page k of what is committed. -/
def pageAt (s : List Nat) (p : Nat) : List Nat := (s.drop p).take 512 ++ (nul 512).drop ((s.drop p).take 512).length
def plE (Pl : List (Nat × Nat)) : List (Nat × Value) := Pl.map fun e => (e.1, .int .i64 (e.2 : Int))
def pageV (b l : List Nat) (Pl : List (Nat × Nat)) (k : Nat) : List Nat := match Pl.find? (fun e => decide (e.1 = k)) with
  | some e => pageAt l e.2
  | none => pageAt b (k * 512)
theorem pageAt_length (s : List Nat) (p : Nat) : (pageAt s p).length = 512 := by
  unfold pageAt
  rw [List.length_append, List.length_drop, nul_length, List.length_take]
  omega
theorem pageV_length (b l : List Nat) (Pl : List (Nat × Nat)) (k : Nat) : (pageV b l Pl k).length = 512 := by
  unfold pageV
  split <;> exact pageAt_length _ _
theorem find_plE (Pl : List (Nat × Nat)) (k : Nat) : (plE Pl).find? (fun e => decide (e.1 = k)) = (Pl.find? (fun e => decide (e.1 = k))).map fun e => (e.1, .int .i64 (e.2 : Int)) := by
  unfold plE
  rw [List.find?_map]
  rfl

set_option maxRecDepth 100000 in
set_option maxHeartbeats 1000000 in
theorem spage_any {w : World} {P D n : Nat} {A : List AF} {F : List Nat} (h : Dz w D n A F) (hS : Ss w P D) (vc ve : Int) (pb : Nat) {Pl : List (Nat × Nat)} (hM : Mo w pb (plE Pl)) (hPl : ∀ e ∈ Pl, e.2 ≤ 4194304) (k : Nat) (hk : k ≤ 4095) :
    Calls Tryz.prog 52 #[.pointer (some ⟨P, 0, none⟩), .agg #[.int .i64 vc, .int .i64 ve, .map (some pb)], .int .i64 (k : Int)] w fun e w' => ∃ g, e = .returned (.slice (some ⟨g, 0, none⟩) 512 512) ∧ Rw w' (.slice (some ⟨g, 0, none⟩) 512 512) (pageV (seenA A baseN) (seenA A logN) Pl k) ∧ w.heap.size ≤ g ∧ Below w.heap.size w w' := by
  cases hf : Pl.find? (fun e => decide (e.1 = k)) with
  | none =>
    have := page_base h hS vc ve pb hM k hk (by rw [find_plE, hf]; rfl)
    unfold pageV
    rw [hf]
    exact this
  | some e0 =>
    have hp4 : e0.2 ≤ 4194304 := hPl e0 (List.mem_of_find?_eq_some hf)
    have HZ := Hid.mk' h
    have HS := Hid.mk' hS
    obtain ⟨w1, hw1⟩ : ∃ w1, w1 = w.alloc (.cells #[.int .i64 vc, .int .i64 ve, .map (some pb)] 89) := ⟨_, rfl⟩
    obtain ⟨bb, hbb⟩ : ∃ bb, bb = w.heap.size := ⟨_, rfl⟩
    have HB1 : Hid (Below w.heap.size w w1) := by rw [hw1]; exact (Below.refl _ _).alloc (Nat.le_refl _) _
    have k2 : w1.cell? ⟨bb, 2, none⟩ = some (.map (some pb)) := by rw [hw1, hbb]; simp
    have hgt := (hM.on HB1.out).getI true (k := k) (by omega)
    rw [find_plE, hf] at hgt
    simp only [Option.map_some, if_true] at hgt
    have HP0 : Hid (pageV (seenA A baseN) (seenA A logN) Pl k = pageAt (seenA A logN) e0.2) := by show _ = _; unfold pageV; rw [hf]
    generalize e0.2 = p at *
    have hmk := make_512 w1
    obtain ⟨w2, hw2⟩ : ∃ w2, w2 = w1.alloc (.cells ((nul 512).map B8).toArray 5) := ⟨_, rfl⟩
    obtain ⟨g, hg⟩ : ∃ g, g = w1.heap.size := ⟨_, rfl⟩
    have HB2 : Hid (Below w.heap.size w w2) := by rw [hw2]; exact HB1.out.alloc HB1.out.size _
    have HR2 : Hid (w2.heap[g]? = some (.cells ((nul 512).map B8).toArray 5 (0, 0))) := by rw [hw2, hg]; exact heap_alloc_new w1 _
    have hwg : w.heap.size ≤ g := by rw [hg]; exact HB1.out.size
    rw [← hw2, ← hg] at hmk
    obtain ⟨s, hs⟩ : ∃ s, ((seenA A logN).drop p).take 512 = s := ⟨_, rfl⟩
    have hs5 : s.length ≤ 512 := by rw [← hs, List.length_take]; omega
    have HRd := Hid.mk' (sread_any (HZ.out.on HB2.out) (HS.out.on HB2.out) logN nam_log p 512 hp4 (by omega) s hs)
    have HP : Hid (pageV (seenA A baseN) (seenA A logN) Pl k = s ++ (nul 512).drop s.length) := by rw [HP0.out]; show _ = _; unfold pageAt; rw [hs]
    clear h hS hM hs hf hPl HP0
    go_enter Tryz.func52, Tryz.ntmps52
    go_upto_region 1 with fail
    rw [← hw1, ← hbb]
    clear hw1 hbb hw2 hg
    go_wp2_with fail
    refine HRd.out.mono ?_
    rintro e w3 ⟨a, c, rfl, hr, ho, hb3⟩
    obtain ⟨w4, hr4, hg4, hF4⟩ := cprow w3 g 0 512 512 5 (nul 512) s (row_on hb3 HR2.out) _ hr.sees hs5 (by rw [nul_length]; omega)
    rw [List.take_zero, List.nil_append, Nat.zero_add, ← HP.out] at hg4
    have HG4 := Hid.mk' hg4
    have HB3 := Hid.mk' (HB2.out.trans (hb3.mono HB2.out.size))
    have HB4 := Hid.mk' (HB3.out.trans (hF4.below HB3.out.size (by simp; omega)))
    clear hr ho hb3 hg4 hF4 HRd hgt hmk
    go_wp2
    go_ret
    exact ⟨_, rfl, rw_row HG4.out (pageV_length _ _ _ _) (by omega), hwg, HB4.out⟩

set_option maxRecDepth 100000 in
set_option maxHeartbeats 1000000 in
theorem read_own {w : World} {P D : Nat} {md : Int} {lb : Nat} {c st vc ve : Int} {vp : Option Nat} {cnt : Int} {ob : Nat} {ma : Option Addr} {mn mc : Nat} {tl : Int} {E : List (Nat × Value)} (hP : Pg w P D md lb c st vc ve vp cnt (some ob) ma mn mc tl) (hst : st = 2 ∨ st = 3) (k : Nat) (hk : k ≤ 4095) (hM : Mo w ob E) (e0 : Nat × Value) (hE : E.find? (fun e => decide (e.1 = k)) = some e0) (l : List Nat) (hs : Sees w e0.2 l) (hl : l.length = 512) :
    Calls Tryz.prog 28 #[.pointer (some ⟨P, 0, none⟩), .int .i64 (k : Int)] w fun e w' => ∃ na nc, e = .returned (.tuple #[.slice na 512 nc, .int .i64 0]) ∧ Rw w' (.slice na 512 nc) l ∧ (∀ x, (Value.slice na 512 nc).ownBlock = some x → w.heap.size ≤ x) ∧ Below w.heap.size w w' := by
  have HI := Hid.mk' (inside_any (P := P) (st := st) (by omega) hP.c5)
  rw [show insE st = 0 by unfold insE; rw [if_neg (by omega), if_neg (by omega)]] at HI
  have HN := Hid.mk' (ispage_any (k : Int) w)
  rw [show isPg (k : Int) = true by unfold isPg; simp; omega] at HN
  obtain ⟨_, _, _, _, x10, _, _⟩ := hP.tx
  have hgt := hM.get true (k := k) (by omega)
  rw [hE] at hgt
  simp only [if_true] at hgt
  have HCl := Hid.mk' (clone_any e0.2 l w hs (by omega))
  generalize e0.2 = u at *
  have HL := Hid.mk' hl
  obtain ⟨⟨ua, uc, rfl, _⟩, _⟩ := hs
  clear hM hE hst hP hl
  go_enter Tryz.func28, Tryz.ntmps28
  go_wp2_with fail
  refine HI.out.mono ?_
  rintro e w1 ⟨rfl, hw⟩
  obtain rfl := hw.symm
  clear hw HI
  go_wp2_with fail
  refine HN.out.mono ?_
  rintro e w1 ⟨rfl, hw⟩
  obtain rfl := hw.symm
  clear hw HN
  go_wp2_with fail
  refine HCl.out.mono ?_
  rintro e w1 ⟨v', rfl, hr, hb, ho⟩
  obtain ⟨na, nc, rfl, _, _⟩ := hr.slice
  rw [HL.out] at hr ho ⊢
  have HR := Hid.mk' hr
  have HB := Hid.mk' hb
  have HO := Hid.mk' ho
  clear hr hb ho HCl hgt
  go_wp2
  go_ret2
  exact ⟨na, nc, rfl, HR.out, HO.out, HB.out⟩

/-- The cells of pages with their numbers. -/
def lfC (E : List (Nat × Value)) : List Value := E.flatMap fun e => [.int .i64 (e.1 : Int), e.2]
theorem lfC_succ (E : List (Nat × Value)) (k : Nat) (hk : k < E.length) : lfC (E.take (k + 1)) = lfC (E.take k) ++ [.int .i64 ((E[k]).1 : Int), (E[k]).2] := by
  rw [List.take_succ_eq_append_getElem hk]
  unfold lfC
  rw [List.flatMap_append]
  simp
theorem lfC_at (E : List (Nat × Value)) (j : Nat) (hj : j < E.length) : (lfC E)[j * 2]? = some (.int .i64 ((E[j]).1 : Int)) ∧ (lfC E)[j * 2 + 1]? = some (E[j]).2 := by
  induction E generalizing j with
  | nil => simp at hj
  | cons x E ih =>
    unfold lfC
    rw [List.flatMap_cons]
    cases j with
    | zero => simp
    | succ j =>
      have := ih j (by simpa using hj)
      unfold lfC at this
      rw [show (j + 1) * 2 = j * 2 + 1 + 1 by omega]
      simpa using this
theorem Tryz.info128 : (Tryz.prog.info? 128).map (fun i => (i.zero, i.size, i.bytes)) = some (some (.agg #[.int .i64 0, .slice none 0 0]), 2, 32) := by kernel_rfl
theorem src_leaf (w : World) (n : Int) (u : Value) (h1 : u.oneCell' = true) : Src Tryz.prog 2 118 (.slice (some ⟨w.heap.size, 0, none⟩) 1 1) 1 [.int .i64 n, u] (w.alloc (.cells #[.int .i64 n, u] 128)) := by
  refine Src.ofSlice _ Tryz.underlying118 ⟨w.heap.size, 0, none⟩ 1 1 _ rfl (fun j u' hj => ?_) (fun u' hu => ?_)
  · match j, hj with
    | 0, hj => simp at hj; subst hj; simp [Addr.add]
    | 1, hj => simp at hj; subst hj; simp [Addr.add]
  · simp at hu
    rcases hu with rfl | rfl
    · rfl
    · exact h1
theorem append_leaf (w : World) (base : Nat) (v : Value) (k : Nat) (xs : List Value) (n : Int) (u : Value) (h1 : u.oneCell' = true) (hown : w.ownsRow base 128 2 v k xs) (hb : k ≤ 10000) (hbase : base ≤ w.heap.size) :
    ∃ v' w', (Builtin.append_ #[118, 118] 118 #[v, .slice (some ⟨w.heap.size, 0, none⟩) 1 1]).run Tryz.prog (w.alloc (.cells #[.int .i64 n, u] 128)) = .ok v' w' ∧ w'.ownsRow base 128 2 v' (k + 1) (xs ++ [.int .i64 n, u]) ∧ (w.alloc (.cells #[.int .i64 n, u] 128)).grownBy w' v.ownBlock := by
  obtain ⟨i0, hi, hz0, hz1, hz2⟩ := info_parts Tryz.info128
  obtain ⟨v', w', h1, h2, h3, _⟩ := run_append_src (P := Tryz.prog) (w.alloc (.cells #[.int .i64 n, u] 128)) base 118 118 118 128 i0 _ 2 32 Tryz.underlying118 hi hz0 hz1 hz2 rfl v k xs (hown.alloc _) _ 1 _ (src_leaf w n u h1) (by unfold maxLen; omega) (by omega) (by simp; omega)
  exact ⟨v', w', h1, h2, h3⟩
theorem owns_ints {w : World} {base n : Nat} {v : Value} {xs : List Int} (h : w.ownsRow base 3 1 v n (xs.map encZ)) :
    ∃ a c, v = .slice a n c ∧ n ≤ c ∧ c ≤ 9223372036854775807 ∧ (1 ≤ n → ∃ g, a = some ⟨g, 0, none⟩ ∧ ∀ j (hj : j < xs.length), w.cell? ⟨g, j, none⟩ = some (.int .i64 xs[j])) := by
  rcases h.2 with ⟨rfl, h0⟩ | ⟨g, cap, cur, rfl, _, hg, hn, hm, _⟩
  · exact ⟨none, 0, by rw [h0], by omega, by omega, fun h1 => by omega⟩
  · refine ⟨some ⟨g, 0, none⟩, cap, rfl, hn, by unfold maxLen at hm; omega, fun _ => ⟨g, rfl, fun j hj => ?_⟩⟩
    have ha : ∀ q, (⟨g, 0, none⟩ : Addr).add q = ⟨g, q, none⟩ := fun q => by unfold Addr.add; split <;> simp_all
    have k1 := h.cells (g := g) rfl j (encZ xs[j]) (by simp [hj])
    rw [ha] at k1
    exact k1
theorem owns_low {w : World} {base b2 : Nat} {e : TypeId} {size : Nat} {v : Value} {n : Nat} {xs : List Value} (h : w.ownsRow base e size v n xs) (hb : b2 ≤ base) : w.ownsRow b2 e size v n xs := by
  refine ⟨h.1, h.2.imp id ?_⟩
  rintro ⟨g, cap, cur, hv, hg, hr⟩
  exact ⟨g, cap, cur, hv, Nat.le_trans hb hg, hr⟩
/-- The keys rise. -/
def risesE (E : List (Nat × Value)) : Prop := E.Pairwise (fun a b => a.1 < b.1)
theorem find_rise {E : List (Nat × Value)} (h : risesE E) (k : Nat) (hk : k < E.length) : E.find? (fun e => decide (e.1 = (E[k]).1)) = some E[k] := by
  rw [List.find?_eq_some_iff_getElem]
  refine ⟨by simp, k, hk, rfl, fun j hj => ?_⟩
  have := List.pairwise_iff_getElem.1 h j k (by omega) hk hj
  simp
  omega

set_option maxRecDepth 100000 in
set_option maxHeartbeats 1000000 in
theorem tpages_any {w : World} {P ob : Nat} {E : List (Nat × Value)} (hM : Mo w ob E) (x10 : w.cell? ⟨P, 10, none⟩ = some (.map (some ob))) (hE : risesE E) (hk : ∀ e ∈ E, e.1 ≤ 100000 ∧ ∃ a n c, e.2 = .slice a n c) (hl : E.length ≤ 4900) :
    Calls Tryz.prog 73 #[.pointer (some ⟨P, 6, none⟩)] w fun e w' => ∃ v', e = .returned v' ∧ w'.ownsRow w.heap.size 128 2 v' E.length (lfC E) ∧ Below w.heap.size w w' := by
  have HM := Hid.mk' hM
  have HE := Hid.mk' hE
  have HK := Hid.mk' hk
  have HSo := Hid.mk' (sorted_any ob 5000 (ents E) heldR w hM (by rw [size_ents]; omega))
  clear hM hE hk
  go_enter Tryz.func73, Tryz.ntmps73
  go_wp2_with fail
  refine (keys_any _ _).mono ?_
  rintro e w1 ⟨rfl, rfl⟩
  go_wp2_with fail
  refine HSo.out.mono ?_
  rintro e w2 ⟨v, ss, rfl, hp, hrow, _, hb⟩
  rw [intKeys_ents] at hp
  have hsk := sort_is hp (by
    rw [List.pairwise_map]
    exact HE.out.imp (fun h => by omega))
  have hln : ss.length = E.length := by rw [hp.length_eq, List.length_map]
  rw [hsk, hln] at hrow
  obtain ⟨a, c, rfl, hc, hcm, hcs⟩ := owns_ints hrow
  have HC := Hid.mk' hcs
  have HB2 : Hid (Below w.heap.size w w2) := ((Below.refl _ _).alloc (Nat.le_refl _) _).trans (hb.mono (by omega))
  clear hp hsk hln hrow hcs hb HSo
  go_wp2
  go_loopw [3, 13] (fun t i wr => ∃ k : Nat, k ≤ E.length ∧ i = .int .i64 k ∧ wr.ownsRow w2.heap.size 128 2 t k (lfC (E.take k)) ∧ Below w2.heap.size w2 wr) (fun _ i _ => E.length - (intOf i).toNat)
  case atStart => exact ⟨0, by omega, rfl, World.ownsRow_nil _ _ _ _, Below.refl _ _⟩
  case round =>
    obtain ⟨k, hk, rfl, hown, hbr⟩ := hrel
    have HBr := Hid.mk' (HB2.out.trans (hbr.mono HB2.out.size))
    have hsz := HBr.out.size
    by_cases hlt : k < E.length
    · obtain ⟨g, rfl, hrw⟩ := HC.out (by omega)
      have r0 := hrw k (by rw [List.length_map]; exact hlt)
      rw [List.getElem_map] at r0
      replace r0 := cell_on hbr r0
      have hle := (HK.out _ (List.getElem_mem hlt)).1
      obtain ⟨sa, sn, sc, hsl⟩ := (HK.out _ (List.getElem_mem hlt)).2
      have hgt := (HM.out.on HBr.out).get false hle
      rw [find_rise HE.out k hlt] at hgt
      simp only [Bool.false_eq_true, if_false] at hgt
      have HT := Hid.mk' (lfC_succ E k hlt)
      obtain ⟨kn, hkn⟩ : ∃ kn, (E[k]).1 = kn := ⟨_, rfl⟩
      rw [hkn, hsl] at HT
      rw [hkn, hsl] at hgt
      rw [hkn] at r0
      have x10' := cell_on HBr.out x10
      have HO := Hid.mk' (append_leaf wr w2.heap.size _ k _ (kn : Int) (.slice sa sn sc) rfl hown (by omega) hbr.size)
      have HLt := Hid.mk' (fun q hq => (hown.lt q hq).1)
      clear hrw hown hsl hkn hle
      go_wp2_with (at_builtin; refine wpList_append_run rfl _ _ 118 118 rfl _ _ rfl rfl HO.out ?_; rintro v5 w5 ⟨ho5, hg5⟩)
      go_roundw
      case rel =>
        refine ⟨k + 1, by omega, by go_num, by rw [HT.out]; exact ho5, ?_⟩
        exact (hbr.alloc hbr.size _).grown hg5 (by have := hbr.size; simp; omega) (fun q hq => HLt.out q hq)
      case measure => simp [intOf]; omega
    · have e : k = E.length := by omega
      have hown' := hown
      rw [e, List.take_of_length_le (by omega)] at hown'
      have HO := Hid.mk' hown'
      clear hown hown' e
      go_wp2
      go_ret
      exact ⟨_, rfl, owns_low HO.out HB2.out.size, HBr.out⟩
end Go.Proofs.YtjimhikfmccicaaGreat
