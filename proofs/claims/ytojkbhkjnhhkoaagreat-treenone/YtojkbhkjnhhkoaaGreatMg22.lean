/-
  The contracts of slices.Grow from nil, slices.Concat of bytes, digits, recordCell.
  The contracts of digits, recordCell and slices.Concat of cells.
  Cells put together: the contract of slices.Concat of cells; cells cut at a place.
-/
import Derived.Test.YtojkbhkjnhhkoaaGreatMg21
import Derived.Lib.AppendZerosOnto
namespace Go.Proofs.YtojkbhkjnhhkoaaGreat.Nod
open Go.RowKit

section
variable {P : Program}
theorem grow_run (w : World) (t tn ty e : TypeId) (i : TypeInfo) (z : Value) (bytes : Nat) (ht : P.underlying t = some (.slice e)) (htn : P.underlying tn = some (.int .i64)) (hi : P.info? e = some i) (hz : i.zero = some z)
    (hsize : i.size = 1) (hby : i.bytes = bytes) (hzs : z.cells.size = 1) (k : Nat) (hk : 0 < k) (h63 : k ≤ maxLen) (hbytes : k * bytes ≤ 140737488355328) :
    ∃ v' w', (Builtin.append_ #[t, tn] ty #[.slice none 0 0, .int .i64 k]).run P w = .ok v' w' ∧ ∃ (cap : Nat) (cur : Array Value), v' = .slice (some ⟨w.heap.size, 0, none⟩) k cap ∧ w' = w.drew.alloc (.cells cur e) ∧ k ≤ cap ∧ cap ≤ maxLen ∧ cur.size = cap * 1 := by
  subst hby
  have hmx : maxLen ≤ 9223372036854775807 := by unfold maxLen; omega
  have hfit : Builtin.nextslicecap (0 + k) 0 * i.bytes ≤ 281474976710656 := growslice_fits (by omega : 0 < 0 + k) (by simpa using hbytes)
  have hr := Lib.run_append_grow_zeros (P := P) w t tn ty e i z .i64 .i64 ht htn hi hz none 0 0 [] (run_firstCells_none w.drew i.size 0 0 0) k hk (by omega) (by omega) (by omega) (by omega) hfit
  have hge := grownCap_ge w (0 + k) 0 e
  have hcm : grownCap w (0 + k) 0 e ≤ maxLen := grownCap_le_maxLen w (0 + k) 0 e (by omega)
  rw [Nat.zero_add] at hr hge hcm
  refine ⟨_, _, hr, _, _, rfl, rfl, hge, hcm, ?_⟩
  rw [Array.size_append, Array.size_append, size_zeroCells, size_zeroCells, hzs]
  simp
  omega
theorem owns_grown {w : World} {e : TypeId} {cap : Nat} {cur : Array Value} (h2 : cap ≤ maxLen) (h3 : cur.size = cap * 1) : (w.drew.alloc (.cells cur e)).ownsRow w.heap.size e 1 (.slice (some ⟨w.heap.size, 0, none⟩) 0 cap) 0 [] :=
  ⟨rfl, .inr ⟨w.heap.size, cap, cur, rfl, Nat.le_refl _, heap_alloc_new w.drew _, Nat.zero_le _, h2, h3, by simp⟩⟩
end

set_option maxRecDepth 100000 in
set_option maxHeartbeats 400000 in
theorem grow8 (n : Nat) (hn : n ≤ 1000000) (w : World) : Calls Tryz.prog 220 #[.slice none 0 0, .int .i64 n] w fun e w' => ∃ v', e = .returned v' ∧ w'.ownsRow w.heap.size 5 1 v' 0 [] ∧ Below w.heap.size w w' := by
  by_cases h0 : n = 0
  · subst h0
    go_enter Tryz.func220, Tryz.ntmps220
    go_wp2
    go_ret
    exact ⟨_, rfl, World.ownsRow_nil _ _ _ _, Below.refl _ _⟩
  · obtain ⟨i0, hi, hz0, hz1, hz2⟩ := info_parts Tryz.info5
    have HA := Hid.mk' (grow_run (P := Tryz.prog) w 54 3 54 5 i0 _ 1 Tryz.underlying54 Tryz.underlying3 hi hz0 hz1 hz2 rfl n (by omega) (by unfold maxLen; omega) (by omega))
    have hpos : 0 < n := by omega
    clear h0 hi hz0 hz1 hz2
    go_enter Tryz.func220, Tryz.ntmps220
    go_wp2_with (at_builtin; refine wpList_append_run rfl _ _ 54 3 rfl _ _ rfl rfl HA.out ?_; rintro v5 w5 ⟨cap, cur, rfl, rfl, h1, h2, h3⟩)
    go_ret
    exact ⟨_, rfl, owns_grown h2 h3, (Below.drew (Below.refl _ _)).alloc (Nat.le_refl _) _⟩

set_option maxRecDepth 100000 in
set_option maxHeartbeats 400000 in
theorem grow24 (n : Nat) (hn : n ≤ 1000000) (w : World) : Calls Tryz.prog 188 #[.slice none 0 0, .int .i64 n] w fun e w' => ∃ v', e = .returned v' ∧ w'.ownsRow w.heap.size 54 1 v' 0 [] ∧ Below w.heap.size w w' := by
  by_cases h0 : n = 0
  · subst h0
    go_enter Tryz.func188, Tryz.ntmps188
    go_wp2
    go_ret
    exact ⟨_, rfl, World.ownsRow_nil _ _ _ _, Below.refl _ _⟩
  · obtain ⟨i0, hi, hz0, hz1, hz2⟩ := info_parts Tryz.info54
    have HA := Hid.mk' (grow_run (P := Tryz.prog) w 34 3 34 54 i0 _ 24 Tryz.underlying34 Tryz.underlying3 hi hz0 hz1 hz2 rfl n (by omega) (by unfold maxLen; omega) (by omega))
    have hpos : 0 < n := by omega
    clear h0 hi hz0 hz1 hz2
    go_enter Tryz.func188, Tryz.ntmps188
    go_wp2_with (at_builtin; refine wpList_append_run rfl _ _ 34 3 rfl _ _ rfl rfl HA.out ?_; rintro v5 w5 ⟨cap, cur, rfl, rfl, h1, h2, h3⟩)
    go_ret
    exact ⟨_, rfl, owns_grown h2 h3, (Below.drew (Below.refl _ _)).alloc (Nat.le_refl _) _⟩

theorem sumlen_flatten (LL : List (List Nat)) : M.sumlen LL = LL.flatten.length := by
  induction LL with
  | nil => rfl
  | cons c LL ih => show c.length + M.sumlen LL = _; rw [ih, List.flatten_cons, List.length_append]
theorem take_flatten {α : Type} (LL : List (List α)) (k : Nat) (h : k < LL.length) : (LL.take (k + 1)).flatten = (LL.take k).flatten ++ LL.getD k [] := by
  rw [List.take_succ_eq_append_getElem h, List.flatten_append]
  simp [List.getD_eq_getElem?_getD, h]
theorem flatten_le {α : Type} (LL : List (List α)) (k : Nat) : (LL.take k).flatten.length ≤ LL.flatten.length := by
  have h : LL.flatten = (LL.take k).flatten ++ (LL.drop k).flatten := by rw [← List.flatten_append, List.take_append_drop]
  rw [h, List.length_append]
  omega

set_option maxRecDepth 100000 in
set_option maxHeartbeats 1000000 in
theorem concat8 (v : Value) (LL : List (List Nat)) (w : World) (hv : Cells w v LL) (hs : LL.flatten.length ≤ 1000000) :
    Calls Tryz.prog 204 #[v] w fun e w' => ∃ v', e = .returned v' ∧ w'.ownsRow w.heap.size 5 1 v' LL.flatten.length (LL.flatten.map B8) ∧ Below w.heap.size w w' := by
  obtain ⟨⟨a, cap, rfl, hc⟩, hm⟩ := hv
  have HC := Hid.mk' hc
  clear hc
  go_enter Tryz.func204, Tryz.ntmps204
  go_wp2
  go_loopw [3, 11] (fun t i wr => ∃ k : Nat, k ≤ LL.length ∧ i = .int .i64 k ∧ t = .int .i64 ((LL.take k).flatten.length : Nat) ∧ wr = w) (fun _ i _ => LL.length - (intOf i).toNat)
  case atStart => exact ⟨0, by omega, rfl, rfl, rfl⟩
  case round =>
    obtain ⟨k, hk, rfl, rfl, hw⟩ := hrel
    obtain rfl := hw.symm
    clear hw
    by_cases hlt : k < LL.length
    · obtain ⟨b, o, rfl, hj⟩ := HC.out (by omega)
      obtain ⟨u, c1, c2⟩ := hj k hlt
      obtain ⟨ua, uc, rfl⟩ := c2.slice
      have hf := take_flatten LL k hlt
      have hle := flatten_le LL (k + 1)
      have HF : Hid ((LL.take (k + 1)).flatten.length = (LL.take k).flatten.length + (LL.getD k []).length) := by show _ = _; rw [hf, List.length_append]
      rw [HF.out] at hle
      generalize (LL.getD k []).length = n at *
      generalize (LL.take k).flatten.length = m at *
      clear hj hf c2
      go_wp2
      go_roundw
      case rel => exact ⟨k + 1, by omega, by go_num, by rw [HF.out]; go_num, by first | rfl | trivial⟩
      case measure => simp [intOf]; omega
    · have hkl : k = LL.length := by omega
      have HE : Hid ((LL.take k).flatten.length = LL.flatten.length) := by show _ = _; rw [hkl, List.take_of_length_le (Nat.le_refl _)]
      clear hkl
      obtain ⟨fl, hfl⟩ : ∃ fl, LL.flatten.length = fl := ⟨_, rfl⟩
      have HG := Hid.mk' (grow8 fl (by omega) w)
      rw [HE.out, hfl]
      clear HE hfl
      go_wp2_with fail
      refine HG.out.mono ?_
      rintro e w1 ⟨v1, rfl, ho1, hb1⟩
      have HO1 := Hid.mk' ho1
      have HB1 := Hid.mk' hb1
      clear HG ho1 hb1
      go_wp2
      go_loopw [6, 27] (fun t i wr => ∃ k : Nat, k ≤ LL.length ∧ i = .int .i64 k ∧ wr.ownsRow w.heap.size 5 1 t (LL.take k).flatten.length ((LL.take k).flatten.map B8) ∧ Below w.heap.size w wr) (fun _ i _ => LL.length - (intOf i).toNat)
      case atStart => exact ⟨0, by omega, rfl, HO1.out, HB1.out⟩
      case round =>
        obtain ⟨k, hk, rfl, ho, hb⟩ := hrel
        have HB := Hid.mk' hb
        by_cases hlt : k < LL.length
        · obtain ⟨b, o, rfl, hj⟩ := HC.out (by omega)
          obtain ⟨u, c1, c2⟩ := hj k hlt
          replace c1 := cell_on hb c1
          replace c2 := c2.below hb
          have hf := take_flatten LL k hlt
          have hle := flatten_le LL (k + 1)
          rw [hf, List.length_append] at hle
          have HA := Hid.mk' (append_bytes wr w.heap.size _ _ ho u _ c2 (by omega) hb.size)
          have HF := Hid.mk' hf
          have hvb : Hid (∀ q, Value.ownBlock _ = some q → w.heap.size ≤ q) := fun q hq => (ho.lt q hq).1
          obtain ⟨ua, uc, rfl⟩ := c2.slice
          obtain ⟨ta, tc, ht, _⟩ := owns_slice ho
          subst ht
          generalize (LL.getD k []).length = n at *
          generalize (LL.take k).flatten.length = m at *
          clear hj hf c2 ho hb
          go_wp2_with (at_builtin; refine wpList_append_run rfl _ _ 54 54 rfl _ _ rfl rfl HA.out ?_; rintro v5 w5 ⟨ho5, hg5, _⟩)
          go_roundw
          case rel => exact ⟨k + 1, by omega, by go_num, by rw [HF.out]; exact ho5, HB.out.grown hg5 HB.out.size hvb.out⟩
          case measure => simp [intOf]; omega
        · have hkl : k = LL.length := by omega
          rw [hkl, List.take_of_length_le (Nat.le_refl _)] at ho
          have HO := Hid.mk' ho
          clear hkl ho
          go_wp2
          go_ret
          exact ⟨_, rfl, HO.out, HB.out⟩
end Go.Proofs.YtojkbhkjnhhkoaaGreat.Nod
namespace Go.Proofs.YtojkbhkjnhhkoaaGreat.Nod
open Go.RowKit

/-- The bytes l lie in the block g. -/
def Rg (w : World) (g : Nat) (l : List Nat) : Prop := w.heap[g]? = some (.cells (l.map B8).toArray 5 (0, 0))
theorem Rg.cell {w : World} {g : Nat} {l : List Nat} (h : Rg w g l) {i : Nat} (hi : i < l.length) : w.cell? ⟨g, i, none⟩ = some (.int .u8 (l.getD i 0 : Nat)) := by
  rw [cell_of_row w g i _ 5 (0, 0) h]
  simp [hi, B8, List.getD_eq_getElem?_getD]
theorem Rg.loose {w : World} {g : Nat} {l : List Nat} (h : Rg w g l) (i : Nat) : w.frozen? ⟨g, i, none⟩ = false := by
  unfold Rg at h
  simp [World.frozen?, h]
theorem Rg.put {w : World} {g : Nat} {l : List Nat} (h : Rg w g l) (i x : Nat) : Rg (w.setCell ⟨g, i, none⟩ (.int .u8 (x : Nat))) g (l.set i x) := by
  have := heap_setCell_same w g i _ 5 (.int .u8 (x : Nat)) h
  unfold Rg
  rw [this, List.map_set]
  simp [B8]
theorem Rg.lt {w : World} {g : Nat} {l : List Nat} (h : Rg w g l) : g < w.heap.size := (Array.getElem?_eq_some_iff.1 h).1
theorem Rg.sees {w : World} {g : Nat} {l : List Nat} (h : Rg w g l) (hm : l.length ≤ 1000000) (cap : Nat) : Sees w (.slice (some ⟨g, 0, none⟩) l.length cap) l := by
  have := sees_block (o := 0) (n := l.length) (cap := cap) h (by omega) (by omega)
  rwa [List.drop_zero, List.take_of_length_le (Nat.le_refl _)] at this
theorem made_row (k : Nat) : madeCells (Value.int .u8 0).cells (k * 1) = ((List.replicate k 0).map B8).toArray := by
  apply Array.ext'
  rw [show (Value.int .u8 0).cells = #[Value.int .u8 0] from rfl, toList_madeCells_one]
  simp [B8]
/-- A row of noughts, kept closed. -/
def zR (k : Nat) : Array Value := ((List.replicate k 0).map B8).toArray
theorem make_row (k : Nat) (hk : k ≤ 1000) (w : World) : (Instr.makeSlice 54 (.int .i64 k) (.int .i64 k)).run Tryz.prog w = .ok (.slice (some ⟨w.heap.size, 0, none⟩) k k) (w.alloc (.cells (zR k) 5)) := by
  obtain ⟨i0, hi, hz0, hz1, hz2⟩ := info_parts Tryz.info5
  have h := run_makeSlice w 54 5 i0 _ Tryz.underlying54 hi hz0 .i64 .i64 (k : Int) (k : Int) (by omega) (by omega) (by rw [hz1]; omega) (by rw [hz2]; omega) (by omega)
  rw [hz1, Int.toNat_natCast, made_row] at h
  exact h
theorem set_next (j : Nat) (B : List Nat) (x : Nat) : (List.replicate (j + 1) 0 ++ B).set j x = List.replicate j 0 ++ x :: B := by
  rw [List.replicate_succ', List.append_assoc, List.set_append_right _ _ (by simp)]
  simp

set_option maxRecDepth 100000 in
set_option maxHeartbeats 400000 in
theorem digits_any (n k : Nat) (hn : n < 18446744073709551616) (hk : k ≤ 8) (w : World) :
    Calls Tryz.prog 182 #[.int .u64 n, .int .i64 k] w fun e w' => ∃ g, e = .returned (.slice (some ⟨g, 0, none⟩) k k) ∧ w.heap.size ≤ g ∧ Rg w' g (M.be k n) ∧ Below w.heap.size w w' := by
  have hmk := make_row k (by omega)
  have HP : Hid (Rg (w.alloc (.cells (zR k) 5)) w.heap.size (List.replicate k 0)) := heap_alloc_new w _
  obtain ⟨w1, hw1⟩ : ∃ w1, w.alloc (.cells (zR k) 5) = w1 := ⟨_, rfl⟩
  obtain ⟨g, hg⟩ : ∃ g, w.heap.size = g := ⟨_, rfl⟩
  have HB : Hid (Below w.heap.size w w1) := by show Below _ _ _; rw [← hw1]; exact (Below.refl _ _).alloc (Nat.le_refl _) _
  have HG : Hid (w.heap.size ≤ g) := by show _ ≤ _; omega
  rw [hw1, hg] at HP
  go_enter Tryz.func182, Tryz.ntmps182
  go_upto_region 2 with fail
  clear hmk hw1 hg
  go_wp2
  go_loopw [0, 6] (fun t i wr => ∃ (j m : Nat) (z : Int), j ≤ k ∧ i = .int .i64 z ∧ z = (j : Int) - 1 ∧ t = .int .u64 m ∧ m = n / 256 ^ (k - j) ∧ Rg wr g (List.replicate j 0 ++ M.be (k - j) n) ∧ Below w.heap.size w wr) (fun _ i _ => (intOf i + 1).toNat)
  case atStart => exact ⟨k, n, _, Nat.le_refl _, rfl, by go_num, rfl, by rw [Nat.sub_self]; simp, by rw [Nat.sub_self]; show Rg w1 g (List.replicate k 0 ++ []); rw [List.append_nil]; exact HP.out, HB.out⟩
  case round =>
    obtain ⟨j, m, z, hj, rfl, hz, rfl, hm, hP, hF⟩ := hrel
    cases j with
    | zero =>
      have hz' : z = -1 := by omega
      subst hz'
      clear hz hm
      rw [Nat.sub_zero] at hP
      have HP := Hid.mk' (show Rg wr g (M.be k n) from hP)
      clear hP
      go_wp2
      go_ret
      exact ⟨g, rfl, HG.out, HP.out, hF⟩
    | succ j =>
      have hz' : z = (j : Int) := by omega
      subst hz'
      have c1 := hP.cell (i := j) (by rw [List.length_append, List.length_replicate]; omega)
      have c2 := hP.loose j
      have HP := Hid.mk' hP
      have HF := Hid.mk' hF
      have HM : Hid (m / 256 = n / 256 ^ (k - j)) := by
        show _ = _
        rw [hm, Nat.div_div_eq_div_mul, ← Nat.pow_succ, show (k - (j + 1)).succ = k - j by omega]
      have HU : Hid ((List.replicate (j + 1) 0 ++ M.be (k - (j + 1)) n).set j (m % 256) = List.replicate j 0 ++ M.be (k - j) n) := by
        show _ = _
        rw [set_next, hm, show k - j = (k - (j + 1)) + 1 by omega]
        rfl
      have hml : m < 18446744073709551616 := by rw [hm]; exact Nat.lt_of_le_of_lt (Nat.div_le_self _ _) hn
      clear hP hF hz hm
      generalize (List.replicate (j + 1) 0 ++ M.be (k - (j + 1)) n).getD j 0 = u at c1
      go_wp2
      go_roundw
      case rel =>
        refine ⟨j, m / 256, _, by omega, rfl, ?_, ?_, HM.out, ?_, ?_⟩
        · omega
        · congr 1
        · have := HP.out.put j (m % 256)
          rw [HU.out] at this
          exact this
        · exact HF.out.setCell (p := ⟨g, j, none⟩) HG.out _
      case measure => simp [intOf]

theorem cells_three (w : World) {u1 u2 u3 : Value} {l1 l2 l3 : List Nat} (h1 : Sees w u1 l1) (h2 : Sees w u2 l2) (h3 : Sees w u3 l3) : Cells (w.alloc (.cells #[u1, u2, u3] 54)) (.slice (some ⟨w.heap.size, 0, none⟩) 3 3) [l1, l2, l3] := by
  have hb : Below w.heap.size w (w.alloc (.cells #[u1, u2, u3] 54)) := (Below.refl _ _).alloc (Nat.le_refl _) _
  refine ⟨⟨_, 3, rfl, fun _ => ⟨w.heap.size, 0, rfl, fun j hj => ?_⟩⟩, by simp⟩
  match j, hj with
  | 0, _ => exact ⟨u1, by simp, h1.below hb⟩
  | 1, _ => exact ⟨u2, by simp, h2.below hb⟩
  | 2, _ => exact ⟨u3, by simp, h3.below hb⟩

set_option maxRecDepth 100000 in
set_option maxHeartbeats 400000 in
theorem reccell_any (k : Int) (n : Nat) (v : Value) (d : List Nat) (w : World) (hv : Sees w v d) (hn : n ≤ 16384) (hd : d.length ≤ 16384) :
    Calls Tryz.prog 177 #[.int .i64 k, .int .i64 n, v] w fun e w' => ∃ v', e = .returned v' ∧ w'.ownsRow w.heap.size 5 1 v' (10 + d.length) ((M.be 8 (T.u64 k) ++ (M.be 2 n ++ d)).map B8) ∧ Below w.heap.size w w' := by
  have HD1 := Hid.mk' (digits_any (T.u64 k) 8 (T.u64_lt k) (by omega) w)
  have HD2 := Hid.mk' (fun (wx : World) => digits_any n 2 (by omega) (by omega) wx)
  have hu : IntKind.u64.wrap k = ((T.u64 k : Nat) : Int) := by
    unfold T.u64
    simp only [IntKind.wrap, IntKind.signed, IntKind.bits]
    simp
    omega
  have HV := Hid.mk' hv
  obtain ⟨va, vc, rfl⟩ := hv.slice
  clear hv
  go_enter Tryz.func177, Tryz.ntmps177
  go_wp2_with fail
  refine HD1.out.mono ?_
  rintro e w1 ⟨g1, rfl, hg1, hR1, hb1⟩
  have HR1 := Hid.mk' (hR1.sees (by rw [M.be_length]; omega) 8)
  have HB1 := Hid.mk' hb1
  clear HD1 hR1 hb1
  go_wp2_with fail
  refine (HD2.out w1).mono ?_
  rintro e w2 ⟨g2, rfl, hg2, hR2, hb2⟩
  have HR2 := Hid.mk' (hR2.sees (by rw [M.be_length]; omega) 2)
  have HB2 := Hid.mk' (HB1.out.trans (hb2.mono HB1.out.size))
  have HC := cells_three w2 (HR1.out.below hb2) HR2.out (HV.out.below HB2.out)
  rw [M.be_length, M.be_length] at HC
  have HN := Hid.mk' (concat8 _ _ _ HC (by simp [M.be_length]; omega))
  clear HD2 hR2 hb2 HC
  go_wp2_with fail
  refine HN.out.mono ?_
  rintro e w3 ⟨v3, rfl, ho3, hb3⟩
  have HB3 : Hid (Below w.heap.size w w3) := (HB2.out.alloc HB2.out.size _).trans (hb3.mono (by have := HB2.out.size; simp; omega))
  have HO3 : Hid (w3.ownsRow w.heap.size 5 1 v3 (10 + d.length) ((M.be 8 (T.u64 k) ++ (M.be 2 n ++ d)).map B8)) := by
    show World.ownsRow _ _ _ _ _ _ _
    have := owns_base ho3 (base' := w.heap.size) (by have := HB2.out.size; simp; omega)
    simp only [List.flatten_cons, List.flatten_nil, List.append_nil] at this
    rwa [List.length_append, List.length_append, M.be_length, M.be_length, show 8 + (2 + d.length) = 10 + d.length by omega] at this
  obtain ⟨xa, xc, rfl, _⟩ := owns_slice HO3.out
  clear ho3 hb3 HN
  go_wp2
  go_ret
  exact ⟨_, rfl, HO3.out, HB3.out⟩
end Go.Proofs.YtojkbhkjnhhkoaaGreat.Nod
namespace Go.Proofs.YtojkbhkjnhhkoaaGreat.Nod
open Go.RowKit

/-- A cell's slice shows its bytes, in a row that is new since base. -/
def ElOk (w : World) (base : Nat) (u : Value) (c : List Nat) : Prop := ∃ ua uc, u = .slice ua c.length uc ∧ c.length ≤ uc ∧ Sees w u c ∧ ∀ x, ua = some x → base ≤ x.block ∧ ∃ cur, w.heap[x.block]? = some (.cells cur 5 (0, 0))
def Vals (w : World) (base : Nat) (us : List Value) (cs : List (List Nat)) : Prop := us.length = cs.length ∧ ∀ j, j < cs.length → ∃ u, us[j]? = some u ∧ ElOk w base u (cs.getD j [])
theorem ElOk.fr {w w' : World} {base : Nat} {u : Value} {c : List Nat} (h : ElOk w base u c) {fs : List Nat} (hF : Fr fs w w') (hn : ∀ k ∈ fs, k < base ∨ ∀ cur t, w.heap[k]? = some (.cells cur t (0, 0)) → t ≠ 5) : ElOk w' base u c := by
  obtain ⟨ua, uc, rfl, h2, h3, h4⟩ := h
  have hb : ∀ x, ua = some x → x.block ∉ fs := fun x hx hk => by
    obtain ⟨h5, cu, h6⟩ := h4 x hx
    rcases hn _ hk with h | h
    · omega
    · exact (h _ _ h6) rfl
  refine ⟨ua, uc, rfl, h2, hF.sees h3 (fun x n c e => ?_), fun x hx => ?_⟩
  · simp at e
    exact hb x e.1
  · obtain ⟨h5, cu, h6⟩ := h4 x hx
    exact ⟨h5, cu, (hF.2.2 _ (Array.getElem?_eq_some_iff.1 h6).1 (hb x hx)).trans h6⟩
theorem ElOk.one {w : World} {base : Nat} {u : Value} {c : List Nat} (h : ElOk w base u c) : u.oneCell' = true := by
  obtain ⟨ua, uc, rfl, _⟩ := h
  rfl
theorem Vals.fr {w w' : World} {base : Nat} {us : List Value} {cs : List (List Nat)} (h : Vals w base us cs) {fs : List Nat} (hF : Fr fs w w') (hn : ∀ k ∈ fs, k < base ∨ ∀ cur t, w.heap[k]? = some (.cells cur t (0, 0)) → t ≠ 5) : Vals w' base us cs :=
  ⟨h.1, fun j hj => by obtain ⟨u, h1, h2⟩ := h.2 j hj; exact ⟨u, h1, h2.fr hF hn⟩⟩
theorem Vals.nil (w : World) (base : Nat) : Vals w base [] [] := ⟨rfl, fun j hj => by cases hj⟩
theorem Vals.one {w : World} {base : Nat} {us : List Value} {cs : List (List Nat)} (h : Vals w base us cs) : ∀ u ∈ us, u.oneCell' = true := by
  intro u hu
  obtain ⟨j, hj, rfl⟩ := List.mem_iff_getElem.1 hu
  obtain ⟨u', h1, h2⟩ := h.2 j (by rw [← h.1]; exact hj)
  rw [List.getElem?_eq_getElem hj] at h1
  simp at h1
  rw [h1]
  exact h2.one
theorem Vals.append {w : World} {base : Nat} {us vs : List Value} {cs ds : List (List Nat)} (h : Vals w base us cs) (g : Vals w base vs ds) : Vals w base (us ++ vs) (cs ++ ds) := by
  refine ⟨by rw [List.length_append, List.length_append, h.1, g.1], fun j hj => ?_⟩
  by_cases h1 : j < cs.length
  · obtain ⟨u, h2, h3⟩ := h.2 j h1
    refine ⟨u, by rw [List.getElem?_append_left (by rw [h.1]; exact h1)]; exact h2, ?_⟩
    rw [show (cs ++ ds).getD j [] = cs.getD j [] by simp [List.getD_eq_getElem?_getD, List.getElem?_append_left h1]]
    exact h3
  · rw [List.length_append] at hj
    obtain ⟨u, h2, h3⟩ := g.2 (j - cs.length) (by omega)
    refine ⟨u, by rw [List.getElem?_append_right (by rw [h.1]; omega), h.1]; exact h2, ?_⟩
    rw [show (cs ++ ds).getD j [] = ds.getD (j - cs.length) [] by simp [List.getD_eq_getElem?_getD, List.getElem?_append_right (show cs.length ≤ j by omega)]]
    exact h3
/-- Cells' slices, one by one. -/
theorem Cls.vals {w : World} {base : Nat} {v : Value} {LL : List (List Nat)} (h : Cls w base v LL) : ∃ us, Vals w base us LL ∧ Src Tryz.prog 1 34 v LL.length us w := by
  obtain ⟨⟨a, cap, rfl, hcap, hc⟩, hm⟩ := h
  by_cases h1 : 1 ≤ LL.length
  · obtain ⟨b, o, rfl, hb, hcur, hj⟩ := hc h1
    have e0 : ∀ j, j < LL.length → ∃ u, w.cell? ⟨b, o + j, none⟩ = some u ∧ ElOk w base u (LL.getD j []) := fun j hlt => by
      obtain ⟨ua, uc, h1, h2, h3, h4⟩ := hj j hlt
      exact ⟨_, h1, ua, uc, rfl, h2, h3, h4⟩
    obtain ⟨Q, hQ⟩ := Go.Deep.choose_lt e0
    have hV : Vals w base ((List.range LL.length).map Q) LL := ⟨by simp, fun j hlt => ⟨Q j, by simp [hlt], (hQ j hlt).2⟩⟩
    refine ⟨_, hV, Src.ofSlice w Tryz.underlying34 ⟨b, o, none⟩ LL.length cap _ (by simp) (fun j u hu => ?_) hV.one⟩
    have hlt : j < LL.length := by simpa using (List.getElem?_eq_some_iff.1 hu).1
    rw [Addr.add_lit, (hQ j hlt).1]
    simpa [hlt] using hu
  · have h0 : LL = [] := List.eq_nil_of_length_eq_zero (by omega)
    subst h0
    refine ⟨[], Vals.nil w base, ?_⟩
    cases a with
    | none => exact Src.ofNil w Tryz.underlying34 cap
    | some ad => exact Src.ofSlice w Tryz.underlying34 ad 0 cap [] rfl (fun j u hu => by simp at hu) (by simp)
theorem Cls.of {w : World} {base : Nat} {v : Value} {us : List Value} {LL : List (List Nat)} (ho : w.ownsRow base 54 1 v LL.length us) (hV : Vals w base us LL) (h1 : LL.length ≤ 1000000) (h2 : ∀ c ∈ LL, c.length ≤ 1000000) (h3 : ∀ c ∈ LL, ∀ x ∈ c, x < 256) : Cls w base v LL := by
  refine ⟨?_, h1, h2, h3⟩
  rcases ho.2 with ⟨rfl, h0⟩ | ⟨g, cap, cur, rfl, hbg, hgc, hcap, _⟩
  · obtain rfl := List.eq_nil_of_length_eq_zero h0
    exact (Cls.nil w base).1
  · refine ⟨some ⟨g, 0, none⟩, cap, rfl, hcap, fun _ => ⟨g, 0, rfl, hbg, ⟨cur, hgc⟩, fun j hj => ?_⟩⟩
    obtain ⟨u, e1, ua, uc, rfl, e2, e3, e4⟩ := hV.2 j hj
    have k1 := ho.cells (g := g) rfl _ _ e1
    rw [Addr.add_lit] at k1
    exact ⟨ua, uc, k1, e2, e3, e4⟩
/-- Cells up to a place, and from it on. -/
theorem Cls.take {w : World} {base : Nat} {a : Option Addr} {n cap : Nat} {LL : List (List Nat)} (h : Cls w base (.slice a n cap) LL) (i : Nat) (hi : i ≤ LL.length) : Cls w base (.slice a i cap) (LL.take i) := by
  obtain ⟨⟨a', cap', he, hcap, hc⟩, h1, h2, h3⟩ := h
  obtain ⟨rfl, _, rfl⟩ := by simpa using he
  have hl : (LL.take i).length = i := by rw [List.length_take]; omega
  refine ⟨⟨a, cap, by rw [hl], by omega, fun h4 => ?_⟩, by omega, fun c hc => h2 c (List.mem_of_mem_take hc), fun c hc => h3 c (List.mem_of_mem_take hc)⟩
  rw [hl] at h4
  obtain ⟨b, o, rfl, hb, hcur, hj⟩ := hc (by omega)
  refine ⟨b, o, rfl, hb, hcur, fun j hlt => ?_⟩
  rw [hl] at hlt
  rw [show (LL.take i).getD j [] = LL.getD j [] by simp [List.getD_eq_getElem?_getD, hlt]]
  exact hj j (by omega)
theorem Cls.drop {w : World} {base : Nat} {a : Option Addr} {n cap : Nat} {LL : List (List Nat)} (h : Cls w base (.slice a n cap) LL) (i : Nat) (hi : i ≤ LL.length) : Cls w base (.slice (if cap = i then a else Option.map (fun x => x.add i) a) (n - i) (cap - i)) (LL.drop i) := by
  obtain ⟨⟨a', cap', he, hcap, hc⟩, h1, h2, h3⟩ := h
  obtain ⟨rfl, rfl, rfl⟩ := by simpa using he
  have hl : (LL.drop i).length = LL.length - i := by rw [List.length_drop]
  refine ⟨⟨_, cap - i, by rw [hl], by omega, fun h4 => ?_⟩, by omega, fun c hc => h2 c (List.mem_of_mem_drop hc), fun c hc => h3 c (List.mem_of_mem_drop hc)⟩
  rw [hl] at h4
  obtain ⟨b, o, rfl, hb, hcur, hj⟩ := hc (by omega)
  have hadd : (⟨b, o, none⟩ : Addr).add i = ⟨b, o + i, none⟩ := by unfold Addr.add; split <;> simp_all
  refine ⟨b, o + i, by rw [if_neg (by omega), Option.map_some, hadd], hb, hcur, fun j hlt => ?_⟩
  rw [hl] at hlt
  rw [show (LL.drop i).getD j [] = LL.getD (i + j) [] by simp [List.getD_eq_getElem?_getD], Nat.add_assoc]
  exact hj (i + j) (by omega)

/-- A slice of cells, of cells. -/
def Clss (w : World) (base : Nat) (v : Value) (K : List (List (List Nat))) : Prop :=
  (∃ a cap, v = .slice a K.length cap ∧ (1 ≤ K.length → ∃ b o, a = some ⟨b, o, none⟩ ∧ ∀ j, j < K.length → ∃ u, w.cell? ⟨b, o + j, none⟩ = some u ∧ Cls w base u (K.getD j []))) ∧ K.length ≤ 1000000
theorem clss_three (w : World) {base : Nat} {u1 u2 u3 : Value} {l1 l2 l3 : List (List Nat)} (h1 : Cls w base u1 l1) (h2 : Cls w base u2 l2) (h3 : Cls w base u3 l3) : Clss (w.alloc (.cells #[u1, u2, u3] 34)) base (.slice (some ⟨w.heap.size, 0, none⟩) 3 3) [l1, l2, l3] := by
  have hb : Below w.heap.size w (w.alloc (.cells #[u1, u2, u3] 34)) := (Below.refl _ _).alloc (Nat.le_refl _) _
  refine ⟨⟨_, 3, rfl, fun _ => ⟨w.heap.size, 0, rfl, fun j hj => ?_⟩⟩, by simp⟩
  match j, hj with
  | 0, _ => exact ⟨u1, by simp, h1.below hb⟩
  | 1, _ => exact ⟨u2, by simp, h2.below hb⟩
  | 2, _ => exact ⟨u3, by simp, h3.below hb⟩
theorem append_vals (w : World) (lo base : Nat) (v : Value) (us : List Value) (cs : List (List Nat)) (hown : w.ownsRow lo 54 1 v cs.length us) (hV : Vals w base us cs) (xv : Value) (ds : List (List Nat)) (hs : Cls w base xv ds) (hb : cs.length + ds.length ≤ 1000000) (hlo : lo ≤ w.heap.size) :
    ∃ v' w', (Builtin.append_ #[34, 34] 34 #[v, xv]).run Tryz.prog w = .ok v' w' ∧ ∃ us', w'.ownsRow lo 54 1 v' (cs ++ ds).length us' ∧ Vals w' base us' (cs ++ ds) ∧ w.grownBy w' v.ownBlock := by
  obtain ⟨i0, hi, hz0, hz1, hz2⟩ := info_parts Tryz.info54
  obtain ⟨vs, hVs, hsrc⟩ := hs.vals
  obtain ⟨v', w', hr, ho', hg, _⟩ := run_append_src w lo 34 34 34 54 i0 _ 1 24 Tryz.underlying34 hi hz0 hz1 hz2 rfl v cs.length _ hown xv ds.length _ hsrc (by unfold maxLen; omega) (by omega) hlo
  refine ⟨v', w', hr, us ++ vs, by rw [List.length_append]; exact ho', (hV.append hVs).fr (Fr.of_grown hg) (fun k hk => .inr fun cur t ht => ?_), hg⟩
  rcases hown.2 with ⟨rfl, _⟩ | ⟨g, cap, cu, rfl, _, hgb, _⟩
  · simp [Value.ownBlock] at hk
  · simp [Value.ownBlock] at hk
    subst hk
    rw [hgb] at ht
    simp at ht
    rw [← ht.2]
    decide

set_option maxRecDepth 100000 in
set_option maxHeartbeats 1000000 in
theorem concat24 (v : Value) (K : List (List (List Nat))) (w : World) {base : Nat} (hbase : base ≤ w.heap.size) (hv : Clss w base v K) (hs : K.flatten.length ≤ 1000000) (h2 : ∀ c ∈ K.flatten, c.length ≤ 1000000) (h3 : ∀ c ∈ K.flatten, ∀ x ∈ c, x < 256) :
    Calls Tryz.prog 146 #[v] w fun e w' => ∃ v', e = .returned v' ∧ Cls w' base v' K.flatten ∧ Below w.heap.size w w' := by
  obtain ⟨⟨a, cap, rfl, hc⟩, hm⟩ := hv
  have HC := Hid.mk' hc
  have HX := Hid.mk' (show (∀ c ∈ K.flatten, c.length ≤ 1000000) ∧ (∀ c ∈ K.flatten, ∀ x ∈ c, x < 256) from ⟨h2, h3⟩)
  clear hc h2 h3
  go_enter Tryz.func146, Tryz.ntmps146
  go_wp2
  go_loopw [3, 11] (fun t i wr => ∃ k : Nat, k ≤ K.length ∧ i = .int .i64 k ∧ t = .int .i64 ((K.take k).flatten.length : Nat) ∧ wr = w) (fun _ i _ => K.length - (intOf i).toNat)
  case atStart => exact ⟨0, by omega, rfl, rfl, rfl⟩
  case round =>
    obtain ⟨k, hk, rfl, rfl, hw⟩ := hrel
    obtain rfl := hw.symm
    clear hw
    by_cases hlt : k < K.length
    · obtain ⟨b, o, rfl, hj⟩ := HC.out (by omega)
      obtain ⟨u, c1, c2⟩ := hj k hlt
      obtain ⟨ua, uc, rfl, _⟩ := c2.slice
      have hf := take_flatten K k hlt
      have hle := flatten_le K (k + 1)
      have HF : Hid ((K.take (k + 1)).flatten.length = (K.take k).flatten.length + (K.getD k []).length) := by show _ = _; rw [hf, List.length_append]
      rw [HF.out] at hle
      generalize (K.getD k []).length = n at *
      generalize (K.take k).flatten.length = m at *
      clear hj hf c2
      go_wp2
      go_roundw
      case rel => exact ⟨k + 1, by omega, by go_num, by rw [HF.out]; go_num, by first | rfl | trivial⟩
      case measure => simp [intOf]; omega
    · have hkl : k = K.length := by omega
      have HE : Hid ((K.take k).flatten.length = K.flatten.length) := by show _ = _; rw [hkl, List.take_of_length_le (Nat.le_refl _)]
      clear hkl
      obtain ⟨fl, hfl⟩ : ∃ fl, K.flatten.length = fl := ⟨_, rfl⟩
      have HG := Hid.mk' (grow24 fl (by omega) w)
      rw [HE.out, hfl]
      clear HE hfl
      go_wp2_with fail
      refine HG.out.mono ?_
      rintro e w1 ⟨v1, rfl, ho1, hb1⟩
      have HO1 := Hid.mk' ho1
      have HB1 := Hid.mk' hb1
      clear HG ho1 hb1
      go_wp2
      go_loopw [6, 27] (fun t i wr => ∃ k : Nat, k ≤ K.length ∧ i = .int .i64 k ∧ (∃ us, wr.ownsRow w.heap.size 54 1 t (K.take k).flatten.length us ∧ Vals wr base us (K.take k).flatten) ∧ Below w.heap.size w wr) (fun _ i _ => K.length - (intOf i).toNat)
      case atStart => exact ⟨0, by omega, rfl, ⟨[], HO1.out, Vals.nil _ _⟩, HB1.out⟩
      case round =>
        obtain ⟨k, hk, rfl, ⟨us, ho, hV⟩, hb⟩ := hrel
        have HB := Hid.mk' hb
        by_cases hlt : k < K.length
        · obtain ⟨b, o, rfl, hj⟩ := HC.out (by omega)
          obtain ⟨u, c1, c2⟩ := hj k hlt
          replace c1 := cell_on hb c1
          replace c2 := c2.below hb
          have hf := take_flatten K k hlt
          have hle := flatten_le K (k + 1)
          rw [hf, List.length_append] at hle
          have HA := Hid.mk' (append_vals wr w.heap.size base _ us _ ho hV u _ c2 (by omega) hb.size)
          have HF := Hid.mk' hf
          have hvb : Hid (∀ q, Value.ownBlock _ = some q → w.heap.size ≤ q) := fun q hq => (ho.lt q hq).1
          obtain ⟨ua, uc, rfl, _⟩ := c2.slice
          obtain ⟨ta, tc, ht, _⟩ := owns_slice ho
          subst ht
          generalize (K.getD k []).length = n at *
          generalize (K.take k).flatten.length = m at *
          clear hj hf c2 ho hb hV
          go_wp2_with (at_builtin; refine wpList_append_run rfl _ _ 34 34 rfl _ _ rfl rfl HA.out ?_; rintro v5 w5 ⟨us5, ho5, hV5, hg5⟩)
          go_roundw
          case rel => exact ⟨k + 1, by omega, by go_num, by rw [HF.out]; exact ⟨us5, ho5, hV5⟩, HB.out.grown hg5 HB.out.size hvb.out⟩
          case measure => simp [intOf]; omega
        · have hkl : k = K.length := by omega
          rw [hkl, List.take_of_length_le (Nat.le_refl _)] at ho hV
          have HO := Hid.mk' (Cls.of (owns_base ho hbase) hV hs HX.out.1 HX.out.2)
          clear hkl ho hV
          go_wp2
          go_ret
          exact ⟨_, rfl, HO.out, HB.out⟩
end Go.Proofs.YtojkbhkjnhhkoaaGreat.Nod
