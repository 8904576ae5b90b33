/-
  The contracts of maps.Keys and slices.Sorted at a map from numbers; a map from numbers to slices that the call made.
-/
import Derived.Test.YtchbheoapldkaaaGreatIt
import Derived.Test.YtchbheoapldkaaaGreatMg11
namespace Go.Proofs.YtchbheoapldkaaaGreat
open Go.RowKit Go.Maps Go.Sort Go.Shelf

/-- slices.Sort's two contracts, at the fence that asks nothing. -/
theorem sortsA (m : Nat) : AnyZI.SortsIn Tryz.prog sortedA_ren Fence.wide m :=
  ⟨fun blk off cap ss W hH hblk hsz => callsIn_wide.2 (AnyM.slices_Sort_int sortA blk off cap ss W hH hblk hsz),
   fun p cap W => callsIn_wide.2 (AnyM.slices_Sort_int_none sortA p cap W)⟩
theorem keys_any (mb : Option Nat) (w : World) : Calls Tryz.prog 104 #[.map mb] w fun e w' => e = .returned (.func (.func 122) #[] #[.pointer (some ⟨w.heap.size, 0, none⟩)]) ∧ w' = w.alloc (.cells #[.map mb] 92) :=
  (callsIn_wide (n := 5)).1 (AnyZI.keys_in keysA Fence.wide 5 trivial rfl mb w)
set_option maxHeartbeats 1000000 in
theorem sorted_any {H : Type} (b nn : Nat) (D0 : DataW H) (R : Value → Option (DataW H × List MemPlace)) (w : World) (hown : w.ownsMap Tryz.prog 3 R b nn D0) (hmax : Maps.size D0 ≤ 100000) :
    Calls Tryz.prog 82 #[.func (.func 122) #[] #[.pointer (some ⟨w.heap.size, 0, none⟩)]] (w.alloc (.cells #[.map (some b)] 92)) fun e w' => ∃ (v : Value) (ss : List Int), e = .returned v ∧ ss.Perm (intKeys D0) ∧
      w'.ownsRow (w.heap.size + 1) 3 1 v ss.length ((ss.mergeSort (fun x y => decide (x ≤ y))).map encZ) ∧ (v = .slice none 0 0 ↔ ss = []) ∧ Below (w.heap.size + 1) (w.alloc (.cells #[.map (some b)] 92)) w' := by
  have hbl := hown.lt
  have hseq : SeqGives Fence.wide 2 Tryz.prog 122 #[.pointer (some ⟨w.heap.size, 0, none⟩)] encZ (fun ss => ss.Perm (intKeys D0)) (Maps.size D0) (w.alloc (.cells #[.map (some b)] 92)) :=
    AnyZI.keys_gives (ρ := keysA_ren) { keysA with } Fence.wide _ trivial rfl (by omega) w.heap.size b nn D0 _ (by simp) (by simp) (by
      obtain ⟨es, clock, hb, Ft, hs, hD⟩ := hown
      exact ⟨es, clock, (Below.heap_alloc _ _ b hbl).trans hb, Ft, hs, hD⟩)
  have cS := AnyZI.sorted_in sortedA Fence.wide 5 trivial trivial trivial trivial rfl (by omega) (sortsA _) (enters_of Tryz.func108 (by kernel_rfl) rfl) 122 #[.pointer (some ⟨w.heap.size, 0, none⟩)] trivial (enters_of Tryz.func122 (by kernel_rfl) rfl) _ _ (by unfold maxLen; omega) (by omega) _ hseq
  change CallsIn _ _ Tryz.prog 82 _ _ _ at cS
  refine ((callsIn_wide (n := 5)).1 cS).mono ?_
  rintro e w' ⟨v, ss, rfl, hS, hrow, hnil, hb⟩
  have h9 : w'.ownsRow (w.alloc (.cells #[.map (some b)] 92)).heap.size 3 1 v ss.length ((ss.mergeSort (fun x y => decide (x ≤ y))).map encZ) := hrow
  exact ⟨v, ss, rfl, hS, by simpa using h9, hnil, by simpa using hb⟩

theorem sort_is {ss ks : List Int} (hp : ss.Perm ks) (hk : ks.Pairwise (· < ·)) : ss.mergeSort (fun x y => decide (x ≤ y)) = ks := by
  have h1 : (ss.mergeSort (fun x y => decide (x ≤ y))).Perm ks := (List.mergeSort_perm _ _).trans hp
  have h2 := List.pairwise_mergeSort (le := fun x y : Int => decide (x ≤ y)) (fun a b c h1 h2 => by simp at *; omega) (fun a b => by simp; omega) ss
  refine h1.eq_of_pairwise ?_ h2 (hk.imp (fun h => by simp; omega))
  intro a b _ _ h3 h4
  simp at h3 h4
  omega

/-- How a map's values are read: as they are. -/
def heldR (v : Value) : Option (DataW Value × List MemPlace) := some (.held v, [])
/-- A map from numbers to slices at block ob: its keys rise. -/
def ents (E : List (Nat × Value)) : DataW Value := .map (E.map fun e => (Lit.int .i64 (e.1 : Int), DataW.held e.2))
def Mo (w : World) (ob : Nat) (E : List (Nat × Value)) : Prop := w.ownsMap Tryz.prog 3 heldR ob 5000 (ents E)
theorem Mo.lt {w : World} {ob : Nat} {E : List (Nat × Value)} (h : Mo w ob E) : ob < w.heap.size := World.ownsMap.lt h
theorem Mo.fr {w w' : World} {ob : Nat} {E : List (Nat × Value)} (h : Mo w ob E) {fs : List Nat} (hF : Fr fs w w') (hn : ob ∉ fs) : Mo w' ob E := by
  obtain ⟨es, clock, hb, r⟩ := h
  exact ⟨es, clock, (hF.2.2 ob (Array.getElem?_eq_some_iff.1 hb).1 hn).trans hb, r⟩
theorem Mo.on {w w' : World} {ob : Nat} {E : List (Nat × Value)} (h : Mo w ob E) (hb : Below w.heap.size w w') : Mo w' ob E := h.fr (Fr.of_below (fs := []) hb) (by simp)
theorem Mo.empty {w : World} {ob : Nat} (h : w.heap[ob]? = some (.map #[] 0)) : Mo w ob [] := ⟨#[], 0, h, ⟨by simp, MapKept.stamped_empty 0, by simp⟩, by simp, rfl⟩

theorem same_int (a k : Nat) : Lit.sameKey (.int .i64 (a : Int)) (.int .i64 (k : Int)) = decide (a = k) := by
  by_cases h : a = k
  · subst h; simp [Lit.sameKey]
  · have : ¬ ((a : Int) = (k : Int)) := by omega
    simp [Lit.sameKey, h, this]
theorem find_ents (E : List (Nat × Value)) (k : Nat) : (E.map fun e => (Lit.int .i64 (e.1 : Int), DataW.held e.2)).find? (fun p => p.1.sameKey (.int .i64 (k : Int))) = (E.find? (fun e => decide (e.1 = k))).map fun e => (Lit.int .i64 (e.1 : Int), DataW.held e.2) := by
  induction E with
  | nil => rfl
  | cons x E ih =>
    rw [List.map_cons, List.find?_cons, List.find?_cons, same_int]
    cases decide (x.1 = k) with
    | true => rfl
    | false => exact ih
theorem atKey_ents (E : List (Nat × Value)) (k : Nat) (zd : DataW Value) : (ents E).atKey (.int .i64 (k : Int)) zd = match E.find? (fun e => decide (e.1 = k)) with | some e => .held e.2 | none => zd := by
  unfold ents DataW.atKey
  simp only [find_ents]
  cases E.find? (fun e => decide (e.1 = k)) <;> rfl
def insN (x : Nat × Value) : List (Nat × Value) → List (Nat × Value)
  | [] => [x]
  | y :: r => if x.1 < y.1 then x :: y :: r else y :: insN x r
def putE (k : Nat) (v : Value) (E : List (Nat × Value)) : List (Nat × Value) := insN (k, v) (E.filter fun e => !decide (e.1 = k))
theorem insert_ents (x : Nat × Value) (E : List (Nat × Value)) : DataW.insert (Lit.int .i64 (x.1 : Int), DataW.held x.2) (E.map fun e => (Lit.int .i64 (e.1 : Int), DataW.held e.2)) = (insN x E).map fun e => (Lit.int .i64 (e.1 : Int), DataW.held e.2) := by
  induction E with
  | nil => rfl
  | cons y E ih =>
    rw [List.map_cons, DataW.insert, insN]
    have e : Lit.before (.int .i64 (x.1 : Int)) (.int .i64 (y.1 : Int)) = decide (x.1 < y.1) := by simp [Lit.before]
    rw [e]
    by_cases h : x.1 < y.1
    · simp [h]
    · simp only [h, decide_false, Bool.false_eq_true, if_false, List.map_cons, ih]
theorem put_ents (E : List (Nat × Value)) (k : Nat) (v : Value) : (ents E).put (.int .i64 (k : Int)) (.held v) = ents (putE k v E) := by
  unfold ents DataW.put putE
  simp only [List.filter_map]
  rw [← insert_ents]
  congr 2
  congr 1
  apply List.filter_congr
  intro e _
  simp [same_int]
theorem insN_length (x : Nat × Value) (E : List (Nat × Value)) : (insN x E).length = E.length + 1 := by
  induction E with
  | nil => rfl
  | cons y E ih =>
    rw [insN]
    split
    · simp
    · simp [ih]
theorem zeroB (w : World) : (zeroValue 37).run Tryz.prog w = .ok (.slice none 0 0) w := by kernel_rfl
theorem wfN {k : Nat} (h : k ≤ 100000) : (Lit.int .i64 (k : Int)).wf = true := by
  simp [Lit.wf, IntKind.min, IntKind.max, IntKind.signed, IntKind.bits]
  omega
/-- What is found in a map from numbers to slices. -/
theorem Mo.get {w : World} {ob : Nat} {E : List (Nat × Value)} (h : Mo w ob E) (c : Bool) {k : Nat} (hk : k ≤ 100000) :
    (Instr.lookup 92 (.map (some ob)) (.int .i64 (k : Int)) c).run Tryz.prog w = match E.find? (fun e => decide (e.1 = k)) with
      | some e => .ok (if c then .tuple #[e.2, .bool true] else e.2) w
      | none => .ok (if c then .tuple #[.slice none 0 0, .bool false] else .slice none 0 0) w := by
  obtain ⟨es, clock, hb, F, _, hD⟩ := h
  rcases Maps.fit_look c (lawI) Tryz.underlying92 (zeroB w) hb F (keyOf_int_mk Tryz.underlying3 (wfN hk)) with ⟨hrun, _, hat⟩ | ⟨e0, y, _, _, hrun, hR, hat, _⟩
  · have h1 := hat .nil
    rw [← hD, atKey_ents] at h1
    cases hf : E.find? (fun e => decide (e.1 = k)) with
    | none => exact hrun
    | some e => rw [hf] at h1; cases h1
  · have h1 := hat .nil
    rw [← hD, atKey_ents] at h1
    obtain rfl : (DataW.held e0.val, []) = y := by simpa [heldR] using hR
    cases hf : E.find? (fun e => decide (e.1 = k)) with
    | none => rw [hf] at h1; cases h1
    | some e =>
      rw [hf] at h1
      obtain h9 : e.2 = e0.val := by simpa using h1
      show _ = Result.ok (if c = true then Value.tuple #[e.2, .bool true] else e.2) w
      rw [h9]
      exact hrun
theorem Mo.put {w : World} {ob : Nat} {E : List (Nat × Value)} (h : Mo w ob E) {k : Nat} (hk : k ≤ 100000) (v : Value) (hE : (putE k v E).length ≤ 5000) :
    ∃ w', (Instr.mapUpdate 92 (.map (some ob)) (.int .i64 (k : Int)) v).run Tryz.prog w = .ok () w' ∧ Mo w' ob (putE k v E) ∧ Fr [ob] w w' := by
  obtain ⟨w', hr, ho, hg⟩ := World.ownsMap.update h lawI Tryz.underlying92 (by unfold maxLen; omega) (keyOf_int_mk Tryz.underlying3 (wfN hk)) (show heldR v = some (.held v, []) from rfl)
  rw [put_ents] at ho
  refine ⟨w', hr, ?_, Fr.of_grown hg⟩
  obtain ⟨es, clock, hb, F, _, hD⟩ := ho
  refine ⟨es, clock, hb, F, ?_, hD⟩
  have e1 : es.size = ((es.toList.map (WideElems.rg Tryz.prog 3 heldR)).foldr DataW.insert []).length := by rw [length_sorted]; simp
  unfold ents at hD
  have e2 := congrArg (fun d : DataW Value => match d with | .map l => l.length | _ => 0) hD
  simp only [List.length_map] at e2
  rw [e1, ← e2]
  exact hE
theorem intKeys_ents (E : List (Nat × Value)) : intKeys (ents E) = E.map (fun e => (e.1 : Int)) := by
  unfold intKeys ents
  simp only [List.map_map, Function.comp_def]
  rfl
theorem size_ents (E : List (Nat × Value)) : Maps.size (ents E) = E.length := by simp [Maps.size, ents]
end Go.Proofs.YtchbheoapldkaaaGreat
