/-
  The parser's calls expr, signed.
-/
import Derived.Test.YtmepkmhfjgocgaaGreatDoorZj
namespace Go.Proofs.YtmepkmhfjgocgaaGreatDoor
open Go.ChangeShapes Go.WideShapes Go.ChangeAt Go.RowKit Go.Deep

/-- What level tells, where so many steps are enough. -/
def LevelC (k : Nat) : Prop :=
  ∀ {w : World} {p : Nat} {R : List L.Tok} {d m : Int}, PS w p R d m → 0 ≤ d → d + R.length ≤ 1000000 → ∀ n : Int, 0 ≤ n → n ≤ 8 → 10 * (R.length : Int) + 9 - n ≤ k → ∀ {g o : Nat} {T : TypeId} {cur : List Value}, EL w g o T cur zE →
    Calls Tryz.prog 196 #[.pointer (some ⟨p, 0, none⟩), .int .i64 n, .pointer (some ⟨g, o, none⟩)] w (Out w p g o T cur d (Z.lv k n d R m))

set_option maxRecDepth 100000 in
set_option maxHeartbeats 1000000 in
theorem expr_reads {k B : Nat} (HL : LevelC k) (hB : 10 * (B : Int) ≤ k + 1) : Reads 154 (Z.lv k 0) B := by
  intro w p R d m h hd hdR hR g o T cur he
  have HC := Hid.mk' (HL h hd hdR 0 (by decide) (by decide) (by omega) he)
  clear h he
  go_enter Tryz.func154, Tryz.ntmps154
  go_wp2_with fail
  refine (HC.out).mono ?_
  intro e w5 h5
  obtain ⟨b, rfl⟩ := h5.bool
  have H5 := Hid.mk' h5
  clear h5 HC
  go_wp2
  go_ret
  exact H5.out

set_option maxRecDepth 100000 in
set_option maxHeartbeats 1000000 in
theorem signed_any {k : Nat} (HL : LevelC k) {w : World} {p : Nat} {R : List L.Tok} {d m : Int} (h : PS w p R d m) (hd : 0 ≤ d) (hdR : d + R.length ≤ 1000000) (s : List UInt8) (hs : ∀ c ∈ s, c.toNat < 128) (hs2 : s.length < 1000) (hs3 : 1 ≤ (Lib.fields s).length) (op n : Int) (hn0 : 0 ≤ n) (hn : n ≤ 7)
    (hk : 10 * (R.length : Int) + 9 - n ≤ k + 1) {g o : Nat} {T : TypeId} {cur : List Value} (he : EL w g o T cur zE) :
    Calls Tryz.prog 215 #[.pointer (some ⟨p, 0, none⟩), .string (S s), .int .i64 op, .int .i64 n, .pointer (some ⟨g, o, none⟩)] w (Out w p g o T cur d (Z.signed (Z.lv k) s op n d R m)) := by
  have HT := Hid.mk' (take_any s hs hs2 h)
  have HP := Hid.mk' (PE.start h he)
  have hpl : Hid (Z.signed (Z.lv k) s op n d R m = match Z.tk s R with
    | none => Z.lv k (n + 1) d R m
    | some R1 => match Z.lv k n d R1 m with
      | none => none
      | some (x, R2, m2) => some (Z.app op [x], R2, m2)) := rfl
  obtain ⟨r, hr⟩ : ∃ r, Z.signed (Z.lv k) s op n d R m = r := ⟨_, rfl⟩
  rw [hr] at hpl
  rw [hr]
  have hgw := he.lt
  have hne := he.ne h
  have hmk := make_expr
  have hgt : ∀ R1, Z.tk s R = some R1 → R1.length < R.length := fun R1 h => Z.tk_lt hs3 h
  have hn9 : n + 1 ≤ 9 := by omega
  clear h he hr hs hs2 hs3
  generalize S s = sv at HT ⊢
  go_enter Tryz.func215, Tryz.ntmps215
  go_wp2_with fail
  refine (HT.out).mono ?_
  rintro e w3 ⟨hf3, ⟨n2, rfl, hp3⟩ | ⟨R2, n2, rfl, hp3⟩⟩
  · have HP3 := Hid.mk' (HP.out.other hp3 hf3)
    have HC := Hid.mk' (HL hp3 hd hdR (n + 1) (by omega) (by omega) (by omega) HP3.out.2.1)
    have hq := hpl.out
    rw [n2] at hq
    clear hpl hf3 hp3 HT n2 hgt
    have hpl := Hid.mk' hq
    clear hq
    go_wp2_with fail
    refine (HC.out).mono ?_
    intro e w5 h5
    obtain ⟨b, rfl⟩ := h5.bool
    have H5 := Hid.mk' (h5.since HP3.out.2.2.1)
    clear h5 HC
    go_wp2
    go_ret
    rw [hpl.out]
    exact H5.out
  · have HP3 := Hid.mk' (HP.out.other hp3 hf3)
    have hR2 := hgt R2 n2
    have hg3 := HP3.out.2.1.lt
    have f3 := HP3.out.2.1.fz
    obtain ⟨a0, a1, a2, a3, a4, a5, a6⟩ := HP3.out.2.1.at7
    have hw3 := hf3.2.1
    have HP4 := Hid.mk' (((HP3.out.set 0 (.int .i64 op)).set 6 (.slice (some ⟨w3.heap.size, 0, none⟩) 1 1)).keep (Fr.of_alloc _ (.cells zE.toArray 56)))
    have HE4 : Hid (EL (((w3.setCell ⟨g, o + 0, none⟩ (.int .i64 op)).setCell ⟨g, o + 6, none⟩ (.slice (some ⟨w3.heap.size, 0, none⟩) 1 1)).alloc (.cells zE.toArray 56)) w3.heap.size 0 56 zE zE) :=
      ⟨by have := heap_alloc_new ((w3.setCell ⟨g, o + 0, none⟩ (.int .i64 op)).setCell ⟨g, o + 6, none⟩ (.slice (some ⟨w3.heap.size, 0, none⟩) 1 1)) (.cells zE.toArray 56); rw [show lput zE 0 zE = zE from rfl]; simpa using this, by decide, by decide, by decide, by have := HP3.out.1.2.1; have := HP3.out.1.lt; omega⟩
    have HC := Hid.mk' (HL HP4.out.1 hd (by omega) n hn0 (by omega) (by omega) HE4.out)
    have hw4 := Hid.mk' (show (((w3.setCell ⟨g, o + 0, none⟩ (.int .i64 op)).setCell ⟨g, o + 6, none⟩ (.slice (some ⟨w3.heap.size, 0, none⟩) 1 1)).alloc (.cells zE.toArray 56)).heap.size = w3.heap.size + 1 by simp)
    have hq := hpl.out
    rw [n2] at hq
    clear hpl hf3 hp3 HT n2 hgt
    have hpl := Hid.mk' hq
    clear hq
    simp only [Nat.add_zero] at HC HP4 hw4
    go_wp2_with fail
    refine (HC.out).mono ?_
    intro e w5 h5
    obtain ⟨b, rfl⟩ := h5.bool
    have H5 := Hid.mk' (h5.app1 HP4.out (by omega) (by rw [hw4.out]; omega) hgw)
    clear h5 HC HE4 HP4
    go_wp2
    go_ret
    have he : r = (Z.lv k n d R2 m).map fun q => (Z.app op [q.1], q.2.1, q.2.2) := by
      rw [hpl.out]
      show (match Z.lv k n d R2 m with
        | none => none
        | some (x, R2, m2) => some (Z.app op [x], R2, m2)) = _
      cases Z.lv k n d R2 m <;> rfl
    rw [he]
    exact H5.out
end Go.Proofs.YtmepkmhfjgocgaaGreatDoor
