/-
  Package print's put, name, list of strings.
-/
import Derived.Test.YtmepkmhfjgocgabGreatDoorQg
namespace Go.Proofs.YtmepkmhfjgocgabGreatDoor
open Go.ChangeShapes Go.WideShapes Go.ChangeAt Go.RowKit Go.Deep

/-- A row of strings in a block of its own. -/
def RowS (w : World) (b : Nat) (l : List (List UInt8)) : Prop := w.heap[b]? = some (.cells (l.map fun s => Value.string (S s)).toArray 9 (0, 0))
theorem RowS.fr {w w' : World} {b p : Nat} {l : List (List UInt8)} (h : RowS w b l) (hf : FrW p w w') (hp : b ≠ p) : RowS w' b l :=
  (hf.2 b (Array.getElem?_eq_some_iff.1 h).1 hp (fun cur d e => by unfold RowS at h; rw [h] at e; simp at e)).trans h
theorem RowS.below {w w' : World} {b : Nat} {l : List (List UInt8)} (h : RowS w b l) (hb : Below w.heap.size w w') : RowS w' b l := (hb.block b (Array.getElem?_eq_some_iff.1 h).1).trans h
theorem RowS.cell {w : World} {b : Nat} {l : List (List UInt8)} (h : RowS w b l) {j : Nat} {s : List UInt8} (hs : l[j]? = some s) : w.cell? ⟨b, j, none⟩ = some (.string (S s)) := by
  rw [cell_of_row w b _ _ _ _ h]
  simp [hs]
theorem RowS.ne {w : World} {b base p : Nat} {l : List (List UInt8)} {s : Q.Wr} (h : RowS w b l) (hw : WS w base p s) : b ≠ p := by
  rintro rfl
  obtain ⟨_, v, hp, _⟩ := hw
  unfold RowS at h
  rw [h] at hp
  simp at hp
theorem RowS.new (w : World) (l : List (List UInt8)) : RowS (w.alloc (.cells (l.map fun s => Value.string (S s)).toArray 9)) w.heap.size l := heap_alloc_new w _
theorem size_take (l : List (List UInt8)) (k : Nat) : Q.size (l.take k) ≤ Q.size l := by
  have h : l = l.take k ++ l.drop k := (List.take_append_drop k l).symm
  have e : ∀ a b : List (List UInt8), Q.size (a ++ b) = Q.size a + Q.size b := fun a b => by simp [Q.size]
  have := e (l.take k) (l.drop k)
  rw [← h] at this
  omega
theorem size_mem {l : List (List UInt8)} {t : List UInt8} (h : t ∈ l) : t.length ≤ Q.size l := by
  induction l with
  | nil => cases h
  | cons a l ih =>
    have e : Q.size (a :: l) = a.length + 1 + Q.size l := by simp [Q.size]
    rcases List.mem_cons.1 h with rfl | h
    · omega
    · have := ih h
      omega
theorem size_ge (l : List (List UInt8)) : l.length ≤ Q.size l := by
  induction l with
  | nil => simp
  | cons a l ih =>
    have e : Q.size (a :: l) = a.length + 1 + Q.size l := by simp [Q.size]
    rw [e, List.length_cons]
    omega
theorem put_len (rows : List (List UInt8)) (s : Q.Wr) (hs : ∀ r ∈ rows, Q.size (Lib.fields r) ≤ 2000) : ∀ k, (Q.put (rows.take k) s).1.length ≤ s.1.length + 2000 * k
  | 0 => by simp [Q.put]
  | k + 1 => by
    have ih := put_len rows s hs k
    rcases Nat.lt_or_ge k rows.length with hk | hk
    · rw [List.take_succ_eq_append_getElem hk, Q.put_snoc]
      have := Q.tokens_len (Lib.fields rows[k]) (Q.put (rows.take k) s)
      have := hs rows[k] (List.getElem_mem hk)
      omega
    · rw [List.take_of_length_le (by omega)] at ih ⊢
      omega

set_option maxRecDepth 100000 in
set_option maxHeartbeats 2000000 in
theorem put_any {w : World} (hg : GP w) {base p : Nat} {s : Q.Wr} (h : WS w base p s) (h14 : 14 ≤ base) (rows : List (List UInt8)) (ha : ∀ r ∈ rows, (∀ c ∈ r, c.toNat < 128) ∧ r.length < 100000) (hs : ∀ r ∈ rows, Q.size (Lib.fields r) ≤ 2000) {b : Nat} (hb : RowS w b rows) (hl : s.1.length + 2000 * rows.length ≤ 90000000) :
    Calls Tryz.prog 44 #[.pointer (some ⟨p, 0, none⟩), .slice (some ⟨b, 0, none⟩) rows.length rows.length] w fun e w' => e = .returned (.tuple #[]) ∧ WS w' base p (Q.put rows s) ∧ Below base w w' ∧ FrW p w w' := by
  have hne := hb.ne h
  have hlt := h.open.choose_spec.choose_spec.2.2.2.1
  have hbp := h.1
  have HG := Hid.mk' hg
  have HR := Hid.mk' hb
  have HW := Hid.mk' h
  have HPL := Hid.mk' (put_len rows s hs)
  clear hg h hb
  go_enter Tryz.func44, Tryz.ntmps44
  go_wp2
  go_loopw [10] (fun i wr => ∃ k : Nat, k ≤ rows.length ∧ i = .int .i64 k ∧ Hid (WS wr base p (Q.put (rows.take k) s)) ∧ Hid (Below base w wr) ∧ Hid (FrW p w wr)) (fun i _ => rows.length - (intOf i).toNat)
  case atStart => exact ⟨0, by omega, by go_num, HW, Hid.mk' (Below.refl _ _), Hid.mk' (FrW.refl _ _)⟩
  case round =>
    obtain ⟨k, hk, rfl, HW1, HB1, HF1⟩ := hrel
    rcases Nat.lt_or_ge k rows.length with hkl | hkl
    · obtain ⟨r, hr⟩ : ∃ r, rows[k] = r := ⟨_, rfl⟩
      have hmem : r ∈ rows := hr ▸ List.getElem_mem hkl
      have c0 := (HR.out.fr HF1.out hne).cell (j := k) (s := r) (by rw [List.getElem?_eq_getElem hkl, hr])
      have HP := Hid.mk' (pfields_any r (ha r hmem).1 (ha r hmem).2 (HG.out.low h14 HB1.out))
      have hsr := hs r hmem
      have hput : Q.put (rows.take (k + 1)) s = Q.tokens (Lib.fields r) (Q.put (rows.take k) s) := by rw [List.take_succ_eq_append_getElem hkl, hr, Q.put_snoc]
      have HPut := Hid.mk' hput
      have hlk := HPL.out k
      have u1 : (k : Int) < (rows.length : Int) := by omega
      obtain ⟨L, hL⟩ : ∃ L, Lib.fields r = L := ⟨_, rfl⟩
      rw [hL] at HP hsr HPut
      obtain ⟨s1, hs1⟩ : ∃ s1, Q.put (rows.take k) s = s1 := ⟨_, rfl⟩
      rw [hs1] at HW1 HPut hlk
      have hLl := size_ge L
      clear hput hL hs1 hr hmem
      go_wp2_with fail
      refine (HP.out).mono ?_
      rintro e w2 ⟨rfl, rfl⟩
      have hba : Below wr.heap.size wr (wr.alloc (.cells (L.map fun l => Value.string (S l)).toArray 9)) := (Below.refl _ _).alloc (Nat.le_refl _) _
      have hrow := RowS.new wr L
      have HW2 := Hid.mk' (HW1.out.below hba)
      have hsz := HF1.out.1
      have HB2 := Hid.mk' (HB1.out.trans (hba.mono (by omega)))
      have HF2 := Hid.mk' (HF1.out.trans (FrW.below hba))
      have HRow := Hid.mk' hrow
      have hfne : wr.heap.size ≠ p := by omega
      obtain ⟨f, hf⟩ : ∃ f, wr.heap.size = f := ⟨_, rfl⟩
      rw [hf] at HRow hfne
      obtain ⟨w2, hw2⟩ : ∃ x, wr.alloc (.cells (L.map fun l => Value.string (S l)).toArray 9) = x := ⟨_, rfl⟩
      rw [hw2] at HW2 HB2 HF2 HRow ⊢
      rw [hf]
      clear hba hrow hw2 hf c0 HP HW1 HB1 HF1 hsz
      go_wp2
      go_loopw [17] (fun i wr => ∃ j : Nat, j ≤ L.length ∧ i = .int .i64 j ∧ Hid (WS wr base p (Q.tokens (L.take j) s1)) ∧ Hid (Below base w2 wr) ∧ Hid (FrW p w2 wr)) (fun i _ => L.length - (intOf i).toNat)
      case atStart => exact ⟨0, by omega, by go_num, HW2, Hid.mk' (Below.refl _ _), Hid.mk' (FrW.refl _ _)⟩
      case round =>
        obtain ⟨j, hj, rfl, HW3, HB3, HF3⟩ := hrel
        rcases Nat.lt_or_ge j L.length with hjl | hjl
        · obtain ⟨t, ht⟩ : ∃ t, L[j] = t := ⟨_, rfl⟩
          have c1 := (HRow.out.fr HF3.out hfne).cell (j := j) (s := t) (by rw [List.getElem?_eq_getElem hjl, ht])
          have htl := size_mem (l := L) (t := t) (ht ▸ List.getElem_mem hjl)
          have htk := Q.tokens_len (L.take j) s1
          have hst := size_take L j
          have u2 : (j : Int) < (L.length : Int) := by omega
          have hbd : (Q.tokens (L.take j) s1).1.length + t.length ≤ 100000000 := by omega
          have HT := Hid.mk' (token_any HW3.out t hbd)
          have htok : Q.token t (Q.tokens (L.take j) s1) = Q.tokens (L.take (j + 1)) s1 := by rw [List.take_succ_eq_append_getElem hjl, ht, Q.tokens_snoc]
          rw [htok] at HT
          clear htok hbd ht htl htk hst
          go_wp2_with fail
          refine (HT.out).mono ?_
          rintro e w4 ⟨rfl, hw4, hb4, hf4⟩
          have HX := Hid.mk' (And.intro hw4 (And.intro (HB3.out.trans hb4) (HF3.out.trans hf4)))
          clear hw4 hb4 hf4 HT c1
          go_wp2
          go_roundw
          case rel => exact ⟨j + 1, by omega, by go_num, Hid.mk' HX.out.1, Hid.mk' HX.out.2.1, Hid.mk' HX.out.2.2⟩
          case measure => simp [intOf]; omega
        · obtain rfl : j = L.length := by omega
          have u2 : ¬ (L.length : Int) < (L.length : Int) := by omega
          go_wp2
          go_roundw
          case rel => exact ⟨k + 1, by omega, by go_num, Hid.mk' (by rw [HPut.out]; have := HW3.out; rwa [List.take_length] at this), Hid.mk' (HB2.out.trans HB3.out), Hid.mk' (HF2.out.trans HF3.out)⟩
          case measure => simp [intOf]; omega
    · obtain rfl : k = rows.length := by omega
      go_wp2
      go_end0
      rw [List.take_length] at HW1
      exact ⟨rfl, HW1.out, HB1.out, HF1.out⟩
end Go.Proofs.YtmepkmhfjgocgabGreatDoor
