/-
  The contract of look, where the log is whole batches.
-/
import Derived.Test.YtjimhikfmccicaaGreatXm
import Derived.Test.YtjimhikfmccicaaGreatMg23
namespace Go.Proofs.YtjimhikfmccicaaGreat
open Go.RowKit Go.Maps Go.Sort Go.Shelf

/-- A scope whose label stands behind two pieces. -/
theorem wp_scope_mid2 {P : Program} {a : Act} {w : World} {Q : Exit → Act → World → Prop} {A B body : Code} (l : Nat) (J : Act → World → Prop) (μ : Act → World → Nat) (hA : findLabel A l = none) (hB : findLabel B l = none) (first : A.wp P (Exit.then (fun a w => B.wp P (Exit.then J (fun _ _ _ => False)) a w) (fun _ _ _ => False)) a w)
    (pass : ∀ a w, J a w → body.wp P (Exit.jump l (fun a' w' => J a' w' ∧ μ a' w' < μ a w) Q) a w) : (Code.scope (.seq A (.seq B (.seq (.label l) body)))).wp P Q a w := by
  refine wp_scope_jumps (rest := .seq .skip body) l J μ (by simp [findLabel, hA, hB]) (wp_seq (wp_mono first ?_)) (fun a w h => wp_seq (wp_skip (pass a w h)))
  intro e a' w' h
  cases e <;> first | exact h.elim | skip
  refine wp_seq (wp_mono h ?_)
  intro e a' w' h
  cases e <;> first | exact h.elim | skip
  refine wp_seq (wp_label (wp_mono (pass a' w' h) ?_))
  intro e a' w' h
  cases e <;> first | exact h | exact ⟨h.1, h.2.1⟩
theorem leafat_any (i : Nat) (hi : i ≤ 10000) (w : World) : Calls Tryz.prog 70 #[.int .i64 (i : Int)] w fun e w' => e = .returned (.int .i64 ((64 + i * 520 + 8 : Nat) : Int)) ∧ w' = w := by
  go_enter Tryz.func70, Tryz.ntmps70
  go_wp2
  go_ret
  exact ⟨ret_int (by omega), rfl⟩
def blkOf : Option Addr → Nat → Nat
  | some x, _ => x.block
  | none, d => d
theorem lkB_push (b : Bt) : ∀ (B : List Bt) (c0 e0 : Nat) (P0 : List (Nat × Nat)) (cnt e : Nat) (Pl : List (Nat × Nat)), lkB c0 e0 P0 B = (cnt, e, Pl) → lkB c0 e0 P0 (B ++ [b]) = (b.1, e + szB b, placesB e 0 b.2 Pl)
  | [], c0, e0, P0, cnt, e, Pl, h => by
    rw [lkB] at h
    obtain ⟨rfl, rfl, rfl⟩ : c0 = cnt ∧ e0 = e ∧ P0 = Pl := by simpa using h
    rfl
  | x :: B, c0, e0, P0, cnt, e, Pl, h => by
    rw [lkB] at h
    rw [List.cons_append, lkB]
    exact lkB_push b B _ _ _ cnt e Pl h
theorem wrap_small {n : Int} (h1 : 0 ≤ n) (h2 : n ≤ 1000000000) : IntKind.i64.wrap n = n := by
  unfold IntKind.wrap
  simp [IntKind.signed, IntKind.bits]
  omega
/-- A frame of look. -/
def lkT (P rb vb : Nat) (u1 l : Value) (U : Nat → Value) : Act := { tmps := #[.pointer (some ⟨P, 0, none⟩), u1, .pointer (some ⟨rb, 0, none⟩), .pointer (some ⟨vb, 0, none⟩), l, U 5, U 6, U 7, U 8, U 9, U 10, U 11, U 12, U 13, U 14, U 15, U 16, U 17, U 18, U 19, U 20, U 21, U 22, U 23, U 24, U 25, U 26, U 27, U 28, U 29, U 30, U 31, U 32, U 33, U 34, U 35, U 36, U 37, U 38, U 39, U 40, U 41, U 42, U 43, U 44, U 45, U 46, U 47, U 48, U 49, U 50, U 51, U 52, U 53, U 54, U 55, U 56, U 57, U 58, U 59], defers := [] }
theorem lkT_of {P rb vb : Nat} {l : Value} (T : Array Value) (h : ({ tmps := T, defers := [] } : Act) = lkT P rb vb (T.getD 1 undef) l (fun k => T.getD k undef)) : ({ tmps := T, defers := [] } : Act) = lkT P rb vb (T.getD 1 undef) l (fun k => T.getD k undef) := h
/-- Where look stands at its label. -/
def LkI (w : World) (cnt0 : Nat) (B : List Bt) (rb vb pb gb : Nat) (va : Option Addr) (r vc : Nat) (wr : World) : Prop :=
  ∃ B1 B2 cnt e Pl, B = B1 ++ B2 ∧ lkB cnt0 0 [] B1 = (cnt, e, Pl) ∧ (logB e B2).length = r ∧ (1 ≤ r → va = some ⟨gb, e, none⟩ ∧ gb < wr.heap.size) ∧ r ≤ vc ∧ vc ≤ 9223372036854775807 ∧ Sees wr (.slice va r vc) (logB e B2) ∧
    wr.heap[vb]? = some (.cells #[.int .i64 (cnt : Int), .int .i64 (e : Int), .map (some pb)] 89 (0, 0)) ∧ Mo wr pb (plE Pl) ∧ okP Pl ∧ wr.heap[rb]? = some (.cells #[.int .i64 0, .int .i64 0, .map none] 89 (0, 0)) ∧
    (w.heap.size ≤ rb ∧ w.heap.size ≤ vb ∧ w.heap.size ≤ pb ∧ vb ≠ pb ∧ gb ≠ vb ∧ gb ≠ pb) ∧ e + r ≤ 4194304 ∧ Below w.heap.size w wr
def LkJ (w : World) (P cnt0 : Nat) (B : List Bt) (a' : Act) (wr : World) : Prop :=
  ∃ rb vb pb gb va r vc u1 U, a' = lkT P rb vb u1 (.slice va r vc) U ∧ LkI w cnt0 B rb vb pb gb va r vc wr

set_option maxRecDepth 100000 in
set_option maxHeartbeats 4000000 in
theorem slook_any {w : World} {P D : Nat} {A : List AF} {F : List Nat} (h : Dl w D A F) (hS : Ss w P D) (B : List Bt) (hB : ∀ b ∈ B, okB b) (hl : seenA A logN = logB 0 B) : Calls Tryz.prog 42 #[.pointer (some ⟨P, 0, none⟩)] w fun e w' => ∃ pb, e = .returned (.agg #[.int .i64 ((lkB (cntA A) 0 [] B).1 : Nat), .int .i64 ((lkB (cntA A) 0 [] B).2.1 : Nat), .map (some pb)]) ∧ Mo w' pb (plE (lkB (cntA A) 0 [] B).2.2) ∧ w.heap.size ≤ pb ∧ Below w.heap.size w w' := by
  have HSz := Hid.mk' (fun (wx : World) (hb : Below w.heap.size w wx) => ssize_l (h.on hb) (hS.on hb) baseN nam_base)
  have hlen := h.len baseN
  have hlenG := h.len logN
  rw [hl] at hlenG
  have HRd := Hid.mk' (fun (wx : World) (hb : Below w.heap.size w wx) => sread_l (h.on hb) (hS.on hb) logN nam_log 0 4194304 (by omega) (by omega) (logB 0 B) (by rw [hl, List.drop_zero, List.take_of_length_le (by omega)]))
  have hBn : (⟨#[98, 97, 115, 101]⟩ : ByteArray) = baseN := rfl
  have hG : (⟨#[98, 97, 115, 101, 45, 108, 111, 103]⟩ : ByteArray) = logN := rfl
  have hmm := @run_makeMap Tryz.prog
  obtain ⟨bl, hbl⟩ : ∃ n, (seenA A baseN).length = n := ⟨_, rfl⟩
  rw [hbl] at HSz hlen
  obtain ⟨q, hq⟩ : ∃ q, (bl + 511) / 512 = q := ⟨_, rfl⟩
  have hmin2 : min (q : Int) 4096 = (cntA A : Int) := by
    unfold cntA
    rw [hbl, hq]
    omega
  generalize cntA A = cnt0 at *
  have HPo := Hid.mk' (fun (wx : World) => pagesof_any bl hlen wx)
  rw [hq] at HPo
  have HB := Hid.mk' hB
  have HGl := Hid.mk' hlenG
  clear h hS hl hbl hq hB hlenG
  go_enter Tryz.func42, Tryz.ntmps42
  go_wp2_with fail
  refine wp_scope_mid2 0 (LkJ w P cnt0 B) (fun a' _ => lenV (a'.tmps.getD 4 undef)) rfl rfl ?_ ?_
  · go_wp2_with fail
    refine (HSz.out _ ((Below.refl _ _).alloc (Nat.le_refl _) _)).mono ?_
    rintro e w1 ⟨rfl, hb1⟩
    have HB1 : Hid (Below w.heap.size w w1) := ((Below.refl _ _).alloc (Nat.le_refl _) _).trans (hb1.mono (by simp))
    have HZ1 : Hid (w1.heap[w.heap.size]? = some (.cells #[.int .i64 0, .int .i64 0, .map none] 89 (0, 0))) := row_on hb1 (heap_alloc_new w _)
    have hz1 : w.heap.size < w1.heap.size := Nat.lt_of_lt_of_le (by simp) hb1.size
    clear hb1
    go_wp2_with fail
    refine (HPo.out w1).mono ?_
    rintro e w2 ⟨rfl, hw⟩
    obtain rfl := hw.symm
    clear hw
    obtain ⟨w3, hw3⟩ : ∃ w3, w3 = (w1.alloc (.map #[] 0)).alloc (.cells #[.int .i64 (cnt0 : Int), .int .i64 0, .map (some w1.heap.size)] 89) := ⟨_, rfl⟩
    have HB3 : Hid (Below w.heap.size w w3) := by rw [hw3]; exact (HB1.out.alloc HB1.out.size _).alloc (by simpa using Nat.le_succ_of_le HB1.out.size) _
    have HM3 : Hid (w3.heap[w1.heap.size]? = some (.map #[] 0)) := by
      show _ = _
      rw [hw3, Below.heap_alloc _ _ _ (by simp)]
      exact heap_alloc_new w1 _
    have HV3 : Hid (w3.heap[w1.heap.size + 1]? = some (.cells #[.int .i64 (cnt0 : Int), .int .i64 0, .map (some w1.heap.size)] 89 (0, 0))) := by
      show _ = _
      rw [hw3, show w1.heap.size + 1 = (w1.alloc (.map #[] 0)).heap.size by simp]
      exact heap_alloc_new _ _
    have HZ3 : Hid (w3.heap[w.heap.size]? = some (.cells #[.int .i64 0, .int .i64 0, .map none] 89 (0, 0))) := by
      rw [hw3]
      show _ = _
      rw [Below.heap_alloc _ _ _ (by simp; omega), Below.heap_alloc _ _ _ hz1]
      exact HZ1.out
    have hsz3 : w3.heap.size = w1.heap.size + 2 := by rw [hw3]; simp
    go_wp2_with fail
    rw [← hw3]
    clear hw3
    have HRd3 := Hid.mk' (HRd.out w3 HB3.out)
    refine HRd3.out.mono ?_
    rintro e w4 ⟨ra, rc, rfl, hR4, hn4, hb4⟩
    have hsl := hR4.slice
    have HFin : Hid (LkI w cnt0 B w.heap.size (w1.heap.size + 1) w1.heap.size (blkOf ra w4.heap.size) ra (logB 0 B).length rc w4) := by
      obtain ⟨a', c', he, hc1, hc2⟩ := hsl
      obtain ⟨rfl, rfl⟩ : ra = a' ∧ rc = c' := by simpa using he
      have h1 := HB1.out.size
      refine ⟨[], B, cnt0, 0, [], rfl, rfl, rfl, fun h1' => ?_, hc1, hc2, hR4.sees, row_on hb4 HV3.out, (Mo.empty HM3.out).on hb4, ⟨List.Pairwise.nil, fun e he => by cases he⟩, row_on hb4 HZ3.out, ⟨Nat.le_refl _, by omega, by omega, by omega, ?_, ?_⟩, by have := HGl.out; omega, HB3.out.trans (hb4.mono HB3.out.size)⟩
      · rcases hR4.1.2 with ⟨_, h0⟩ | ⟨g, cap, cur, hv, _, hg, _⟩
        · omega
        · obtain ⟨rfl, _, _⟩ : ra = some ⟨g, 0, none⟩ ∧ (logB 0 B).length = (logB 0 B).length ∧ rc = cap := by simpa using hv
          exact ⟨rfl, (Array.getElem?_eq_some_iff.1 hg).1⟩
      · cases ra with
        | none => have := hb4.size; show w4.heap.size ≠ _; omega
        | some x => have := hn4 x.block rfl; show x.block ≠ _; omega
      · cases ra with
        | none => have := hb4.size; show w4.heap.size ≠ _; omega
        | some x => have := hn4 x.block rfl; show x.block ≠ _; omega
    clear hR4 hn4 hb4 HRd3 hsl
    go_wp2
    exact ⟨_, _, _, _, _, _, _, _, _, lkT_of _ rfl, HFin.out⟩
  rintro act wr ⟨rb, vb, pb, gb, va, r, vc, u1, U, rfl, B1, B2, cnt, e, Pl, hBe, hlk, hr, hva, hrc, hvc, hse, hv, hM, hPl, hz, ⟨hwr, hwv, hwp, hvp, hgv, hgp⟩, hle, hbr⟩
  unfold lkT
  clear HSz HRd HPo hmin2 hmm
  have k0 : wr.cell? ⟨vb, 0, none⟩ = some (.int .i64 (cnt : Int)) := (cell_of_row wr vb 0 _ _ (0, 0) hv).trans rfl
  have k1 : wr.cell? ⟨vb, 1, none⟩ = some (.int .i64 (e : Int)) := (cell_of_row wr vb 1 _ _ (0, 0) hv).trans rfl
  have k2 : wr.cell? ⟨vb, 2, none⟩ = some (.map (some pb)) := (cell_of_row wr vb 2 _ _ (0, 0) hv).trans rfl
  have HV := Hid.mk' hv
  have HM := Hid.mk' hM
  have HZ := Hid.mk' hz
  have HBr := Hid.mk' hbr
  have HPl := Hid.mk' hPl
  have HLk := Hid.mk' hlk
  have HBe := Hid.mk' hBe
  have HR := Hid.mk' hr
  clear hv hM hz hbr hPl hlk hBe
  cases B2 with
  | nil =>
    obtain rfl : r = 0 := by rw [← hr]; rfl
    have HE : Hid (lkB cnt0 0 [] B = (cnt, e, Pl)) := by show _ = _; rw [HBe.out, List.append_nil]; exact HLk.out
    clear hse hva hr HR
    go_wp2_with fail
    refine (decode_few _ _ _ (by omega) wr).mono ?_
    rintro e' w5 ⟨rfl, hb5⟩
    replace k0 := cell_on hb5 k0
    replace k1 := cell_on hb5 k1
    replace k2 := cell_on hb5 k2
    obtain ⟨w6, hw6⟩ : ∃ w6, w6 = w5.alloc (.cells #[.int .i64 0, .int .i64 0, .int .i64 0, .slice none 0 0] 120) := ⟨_, rfl⟩
    have hb6 : Below wr.heap.size wr w6 := by rw [hw6]; exact hb5.alloc hb5.size _
    have hb56 : Below w5.heap.size w5 w6 := by rw [hw6]; exact (Below.refl _ _).alloc (Nat.le_refl _) _
    have j0 : w6.cell? ⟨w5.heap.size, 0, none⟩ = some (.int .i64 0) := by rw [hw6]; simp
    go_upto_region 4 with fail
    rw [← hw6]
    clear hw6
    replace k0 := cell_on hb56 k0
    replace k1 := cell_on hb56 k1
    replace k2 := cell_on hb56 k2
    have HB6 : Hid (Below w.heap.size w w6) := HBr.out.trans (hb6.mono HBr.out.size)
    have HM6 := Hid.mk' (HM.out.on hb6)
    have HZ6 := Hid.mk' (row_on hb6 HZ.out)
    have z0 : w6.cell? ⟨rb, 0, none⟩ = some (.int .i64 0) := (cell_of_row _ _ 0 _ _ (0, 0) HZ6.out).trans rfl
    have z1 : w6.cell? ⟨rb, 1, none⟩ = some (.int .i64 0) := (cell_of_row _ _ 1 _ _ (0, 0) HZ6.out).trans rfl
    have z2 : w6.cell? ⟨rb, 2, none⟩ = some (.map none) := (cell_of_row _ _ 2 _ _ (0, 0) HZ6.out).trans rfl
    have f0 : w6.frozen? ⟨rb, 0, none⟩ = false := by have h1 := HZ6.out; simp [World.frozen?, h1]
    have f1 : w6.frozen? ⟨rb, 1, none⟩ = false := by have h1 := HZ6.out; simp [World.frozen?, h1]
    have f2 : w6.frozen? ⟨rb, 2, none⟩ = false := by have h1 := HZ6.out; simp [World.frozen?, h1]
    have hpr : pb ≠ rb := fun h => by
      obtain ⟨es, clock, hb, _⟩ := HM6.out
      rw [h, HZ6.out] at hb
      cases hb
    clear hb5 hb6 hb56
    generalize w5.heap.size = bb at *
    go_wp2_with fail
    simp only [Exit.jump]
    refine bodyPost_ret (v := .agg #[.int .i64 (cnt : Int), .int .i64 (e : Int), .map (some pb)]) ?_ rfl ⟨pb, by rw [HE.out], ?_, hwp, ?_⟩
    · simp [results, Tryz.results42, go_sem, z0, z1, z2]
    · rw [HE.out]
      have hF : Fr [rb] w6 (((w6.setCell ⟨rb, 0, none⟩ (.int .i64 (cnt : Int))).setCell ⟨rb, 1, none⟩ (.int .i64 (e : Int))).setCell ⟨rb, 2, none⟩ (.map (some pb))) := (((Fr.refl [rb] w6).set (a := ⟨rb, 0, none⟩) (by simp) _).set (a := ⟨rb, 1, none⟩) (by simp) _).set (a := ⟨rb, 2, none⟩) (by simp) _
      exact HM6.out.fr hF (by simpa using hpr)
    · exact ((HB6.out.setCell (p := ⟨rb, 0, none⟩) hwr _).setCell (p := ⟨rb, 1, none⟩) hwr _).setCell (p := ⟨rb, 2, none⟩) hwr _
  | cons b B2 =>
    obtain ⟨bc, X⟩ := b
    have hok := HB.out (bc, X) (by rw [HBe.out]; simp)
    have o1 : wholeB X := hok.1
    have o2 : ∀ x ∈ X, x.1 ≤ 4095 := hok.2.1
    have o3 : riseF (bc : Int) 0 (X.map fun x => x.1) = true := hok.2.2.1
    have o4 : X.length ≤ bc := hok.2.2.2.1
    have o5 : bc ≤ 4096 := hok.2.2.2.2
    clear hok
    have hel := encB_length 3 bc e o1
    have hrl : 64 + X.length * 520 ≤ r := by
      have := HR.out
      rw [logB, List.length_append] at this
      simp only at this
      rw [hel] at this
      omega
    obtain ⟨rfl, hgw⟩ := hva (by omega)
    have HDe := Hid.mk' (decode_enc gb e r vc 3 bc e X (logB (e + szB (bc, X)) B2) o1 o2 o3 o4 o5 (by omega) (by omega) HR.out hrc hvc hse hgw)
    obtain ⟨m, hm⟩ : ∃ m, X.length = m := ⟨_, rfl⟩
    have hm4 : m ≤ 4096 := by omega
    rw [hm] at hrl hel
    have HO2 := Hid.mk' o2
    have HXm := Hid.mk' hm
    obtain ⟨Z, hZ⟩ : ∃ Z, 64 + m * 520 = Z := ⟨_, rfl⟩
    obtain ⟨va2, hva2⟩ : ∃ va2, (if vc = Z then some (⟨gb, e, none⟩ : Addr) else Option.map (fun x : Addr => x.add Z) (some ⟨gb, e, none⟩)) = va2 := ⟨_, rfl⟩
    obtain ⟨r2, hr2⟩ : ∃ r2, r - Z = r2 := ⟨_, rfl⟩
    obtain ⟨vc2, hvc2⟩ : ∃ vc2, vc - Z = vc2 := ⟨_, rfl⟩
    have hsl := slice_u8 (some ⟨gb, e, none⟩) r vc Z (Z : Int) rfl (by omega) va2 hva2 r2 vc2 hr2 hvc2
    have HSZ : Hid (szB (bc, X) = Z) := by show _ = _; unfold szB; rw [← hZ, ← hm]
    have HSe := Hid.mk' hse
    have HGw := Hid.mk' hgw
    have HR2 : Hid ((logB (e + Z) B2).length = r2) := by
      show _ = _
      have := HR.out
      rw [logB, List.length_append, HSZ.out] at this
      simp only at this
      rw [hel] at this
      omega
    have HDr : Hid ((logB e ((bc, X) :: B2)).drop Z = logB (e + Z) B2) := by
      show _ = _
      rw [logB, HSZ.out, List.drop_append_of_le_length (by simp only; rw [hel]; omega), List.drop_of_length_le (by simp only; rw [hel]; omega), List.nil_append]
    have HVA : Hid (1 ≤ r2 → va2 = some ⟨gb, e + Z, none⟩) := fun h1 => by
      rw [if_neg (by omega), Option.map_some, Addr.add_lit] at hva2
      exact hva2.symm
    have HVB : Hid (∀ wx, Below w.heap.size w wx → Sees wx (.slice (some ⟨gb, e, none⟩) r vc) (logB e ((bc, X) :: B2)) → Sees wx (.slice va2 r2 vc2) (logB (e + Z) B2)) := fun wx _ hs => by
      by_cases h0 : r2 = 0
      · have : logB (e + Z) B2 = [] := List.eq_nil_of_length_eq_zero (by rw [HR2.out, h0])
        rw [this, h0]
        exact Sees.none' _ _ _
      · have h9 := hs.part Z r2 vc2 (by rw [HR.out]; omega)
        rw [Option.map_some, Addr.add_lit, HDr.out, List.take_of_length_le (by rw [HR2.out]; omega)] at h9
        rw [HVA.out (by omega)]
        exact h9
    have hzi : (64 : Int) + (m : Int) * 520 = (Z : Int) := by omega
    have hrz : r2 < r := by omega
    have hez : e + Z + r2 ≤ 4194304 := by omega
    have hvr : r2 ≤ vc2 ∧ vc2 ≤ 9223372036854775807 := by omega
    clear hse hr o1 o2 o3 o4 hel hm hva2 hr2 hvc2 hva
    go_wp2_with fail
    refine HDe.out.mono ?_
    rintro e' w5 ⟨yv, Y, rfl, hY, hYe, hYb, hb5⟩
    obtain ⟨ya, yc, yg, rfl, hyc, hycm, hyr⟩ := owns_leafs hY.1
    have HYl : Hid (Y.length = m) := by
      show _ = _
      have := congrArg List.length hYe
      rw [List.length_map, HXm.out] at this
      exact this
    have HYe := Hid.mk' hYe
    rw [HYl.out]
    obtain ⟨db, hdb⟩ : ∃ db, db = w5.heap.size := ⟨_, rfl⟩
    obtain ⟨w6, hw6⟩ : ∃ w6, w6 = w5.alloc (.cells #[.int .i64 3, .int .i64 (bc : Int), .int .i64 (e : Int), .slice ya m yc] 120) := ⟨_, rfl⟩
    have hb56 : Below w5.heap.size w5 w6 := by rw [hw6]; exact (Below.refl _ _).alloc (Nat.le_refl _) _
    have hb6 : Below wr.heap.size wr w6 := hb5.trans (hb56.mono hb5.size)
    have HD6 : Hid (w6.heap[db]? = some (.cells #[.int .i64 3, .int .i64 (bc : Int), .int .i64 (e : Int), .slice ya m yc] 120 (0, 0))) := by rw [hw6, hdb]; exact heap_alloc_new w5 _
    have HYr : Hid (1 ≤ m → ya = some ⟨yg, 0, none⟩ ∧ ∀ j (hj : j < Y.length), w6.cell? ⟨yg, 2 * j, none⟩ = some (.int .i64 ((Y[j]).1 : Int)) ∧ w6.cell? ⟨yg, 2 * j + 1, none⟩ = some (Y[j]).2.1) := fun h1 => by
      obtain ⟨q1, _, _, q4⟩ := hyr (by rw [HYl.out]; exact h1)
      exact ⟨q1, fun j hj => ⟨cell_on hb56 (q4 j hj).1, cell_on hb56 (q4 j hj).2⟩⟩
    have HYg : Hid (1 ≤ m → w.heap.size ≤ yg ∧ yg < w6.heap.size ∧ wr.heap.size ≤ yg) := fun h1 => by
      obtain ⟨_, q2, q3, _⟩ := hyr (by rw [HYl.out]; exact h1)
      have := (hY.1.lt yg q2).1
      have := HBr.out.size
      have := hb56.size
      exact ⟨by omega, by omega, by omega⟩
    have hwd : wr.heap.size ≤ db := by rw [hdb]; exact hb5.size
    have hvw : vb < wr.heap.size := row_lt HV.out
    have hrw2 : rb < wr.heap.size := row_lt HZ.out
    have hpw : pb < wr.heap.size := HM.out.lt
    have hvr3 : vb ≠ rb := fun h => by
      have h1 := HV.out
      rw [h, HZ.out] at h1
      simp at h1
    have hpr3 : pb ≠ rb := fun h => by
      obtain ⟨es, clock, hb, _⟩ := HM.out
      rw [h, HZ.out] at hb
      cases hb
    have HB6 := Hid.mk' hb6
    have HBw6 : Hid (Below w.heap.size w w6) := HBr.out.trans (hb6.mono HBr.out.size)
    have HM6 := Hid.mk' (HM.out.on hb6)
    replace k0 := cell_on hb6 k0
    replace k1 := cell_on hb6 k1
    replace k2 := cell_on hb6 k2
    have j0 : w6.cell? ⟨db, 0, none⟩ = some (.int .i64 3) := (cell_of_row w6 db 0 _ _ (0, 0) HD6.out).trans rfl
    have j1 : w6.cell? ⟨db, 1, none⟩ = some (.int .i64 (bc : Int)) := (cell_of_row w6 db 1 _ _ (0, 0) HD6.out).trans rfl
    have j2 : w6.cell? ⟨db, 2, none⟩ = some (.int .i64 (e : Int)) := (cell_of_row w6 db 2 _ _ (0, 0) HD6.out).trans rfl
    have j3 : w6.cell? ⟨db, 3, none⟩ = some (.slice ya m yc) := (cell_of_row w6 db 3 _ _ (0, 0) HD6.out).trans rfl
    have HYs : Hid (∀ y ∈ Y, ∃ a1 c1, y.2.1 = .slice a1 512 c1) := fun y hy => (hY.2 y hy).2.2
    clear hY hYe hYb hb5 HDe hyr hb56 hb6
    go_upto_region 4 with fail
    rw [← hw6, ← hdb]
    clear hw6 hdb
    have hyc' : m ≤ yc := by rw [← HYl.out]; exact hyc
    clear hyc hycm
    go_wp2
    go_loopw [32] (fun u32 wl => ∃ i : Nat, i ≤ m ∧ u32 = .int .i64 i ∧ Mo wl pb (plE (placesB e 0 (X.take i) Pl)) ∧ okP (placesB e 0 (X.take i) Pl) ∧ Fr [pb] w6 wl) (fun i _ => m - (intOf i).toNat)
    case atStart => exact ⟨0, by omega, rfl, HM6.out, HPl.out, Fr.refl _ _⟩
    case round =>
      obtain ⟨i, hi, rfl, hMl, hPll, hFl⟩ := hrel
      have HMl := Hid.mk' hMl
      have HPll := Hid.mk' hPll
      have HFl := Hid.mk' hFl
      replace k0 := hFl.cell k0 (by simpa using hvp)
      replace k1 := hFl.cell k1 (by simpa using hvp)
      replace k2 := hFl.cell k2 (by simpa using hvp)
      have hdp : db ≠ pb := by omega
      replace j0 := hFl.cell j0 (by simpa using hdp)
      replace j1 := hFl.cell j1 (by simpa using hdp)
      replace j2 := hFl.cell j2 (by simpa using hdp)
      replace j3 := hFl.cell j3 (by simpa using hdp)
      clear hMl hPll
      by_cases hlt : i < m
      · obtain ⟨rfl, hcells⟩ := HYr.out (by omega)
        have hyg := HYg.out (by omega)
        have hiY : i < Y.length := by rw [HYl.out]; exact hlt
        have hiX : i < X.length := by rw [HXm.out]; exact hlt
        obtain ⟨q0, q1⟩ := hcells i hiY
        replace q0 := hFl.cell q0 (by simp; omega)
        replace q1 := hFl.cell q1 (by simp; omega)
        have hkx : (Y[i]).1 = (X[i]).1 := by
          have h9 : (Y.map pr)[i]'(by rw [List.length_map]; exact hiY) = X[i] := by simp [HYe.out]
          rw [← h9, List.getElem_map]
          rfl
        rw [hkx] at q0
        have hk4 := HO2.out _ (List.getElem_mem hiX)
        have HT : Hid (X.take (i + 1) = X.take i ++ [X[i]]) := List.take_succ_eq_append_getElem hiX
        obtain ⟨sa, hsa⟩ : ∃ sa, (Y[i]).2.1 = sa := ⟨_, rfl⟩
        rw [hsa] at q1
        have hsl2 : ∃ a1 n1 c1, sa = .slice a1 n1 c1 := by
          obtain ⟨a1, c1, h1⟩ := (HYs.out _ (List.getElem_mem hiY))
          exact ⟨a1, 512, c1, by rw [← hsa]; exact h1⟩
        obtain ⟨a1, n1, c1, rfl⟩ := hsl2
        have HXl : Hid ((X.take i).length = i) := by show _ = _; rw [List.length_take]; omega
        obtain ⟨p, hp⟩ : ∃ p, 64 + i * 520 + 8 = p := ⟨_, rfl⟩
        have hpb : p ≤ 3000000 := by omega
        have hep : e + p ≤ 4194304 := by omega
        have HPp := Hid.mk' hp
        have HLA : Hid (∀ wx, Calls Tryz.prog 70 #[.int .i64 (i : Int)] wx fun e w' => e = .returned (.int .i64 (p : Int)) ∧ w' = wx) := fun wx => by rw [← hp]; exact leafat_any i (by omega) wx
        have HKx : Hid (∀ kk pp, (X[i]).1 = kk → pp = p → placesB e 0 (X.take (i + 1)) Pl = putP kk (e + pp) (placesB e 0 (X.take i) Pl)) := fun kk pp h1 h2 => by
          rw [HT.out, placesB_push, HXl.out, h1, h2, ← HPp.out, Nat.zero_add]
        clear hcells hkx hsa hp
        generalize hkn : (X[i]).1 = kn at *
        rw [show 2 * i = i * 2 by omega] at q0 q1
        obtain ⟨w7, hw7⟩ : ∃ w7, w7 = wr.alloc (.cells #[.int .i64 (kn : Int), .slice a1 n1 c1] 128) := ⟨_, rfl⟩
        obtain ⟨xb, hxb⟩ : ∃ xb, xb = wr.heap.size := ⟨_, rfl⟩
        have hb7 : Below wr.heap.size wr w7 := by rw [hw7]; exact (Below.refl _ _).alloc (Nat.le_refl _) _
        have y0 : w7.cell? ⟨xb, 0, none⟩ = some (.int .i64 (kn : Int)) := by rw [hw7, hxb]; simp
        have t1 := cell_on hb7 k1
        have t2 := cell_on hb7 k2
        have hxp : xb ≠ pb := by have := HMl.out.lt; omega
        obtain ⟨w9, hr9, hM9, hF9⟩ := ((HMl.out.on hb7).on (Below.refl _ _).drew).putI (k := kn) (by omega) (.int .i64 ((e : Int) + (p : Int))) (by
          rw [show (Value.int .i64 ((e : Int) + (p : Int))) = .int .i64 ((e + p : Nat) : Int) by rw [Int.natCast_add], ← plE_put]
          have := putP_len HPll.out.1 (fun e he => (HPll.out.2 e he).1) hk4 (e + p)
          simp [plE]
          omega)
        have HM9 : Hid (Mo w9 pb (plE (placesB e 0 (X.take (i + 1)) Pl))) := by
          show Mo _ _ _
          rw [HKx.out kn p rfl rfl, plE_put, Int.natCast_add]
          exact hM9
        have HP9 : Hid (okP (placesB e 0 (X.take (i + 1)) Pl)) := by
          show okP _
          rw [HKx.out kn p rfl rfl]
          exact okP_put HPll.out hk4 (by omega)
        have HF9 : Hid (Fr [pb] w6 w9) := (hFl.trans (Fr.of_below (fs := []) hb7) (fun k hk => by cases hk)).trans (show Fr [pb] w7 w9 from hF9) (fun k hk => .inl hk)
        have hF9' : Fr [pb] w7 w9 := hF9
        have u1' := hF9'.cell t1 (by simpa using hvp)
        have u2' := hF9'.cell t2 (by simpa using hvp)
        have u0' := hF9'.cell y0 (by simpa using hxp)
        have hwe : IntKind.i64.wrap ((e : Int) + (p : Int)) = (e : Int) + (p : Int) := wrap_small (by omega) (by omega)
        clear hM9 hF9 hF9'
        go_upto_region 9 with fail
        rw [← hw7, ← hxb]
        clear hw7 hxb hb7 k0 k1 k2 q0 q1
        have hS := Hid.mk' (show (fun w' : World => w'.cell? ⟨vb, 2, none⟩ = some (.map (some pb)) ∧ w'.cell? ⟨vb, 1, none⟩ = some (.int .i64 (e : Int)) ∧ w'.cell? ⟨xb, 0, none⟩ = some (.int .i64 (kn : Int))) w7 from ⟨t2, t1, y0⟩)
        go_region_held3 (fun w' : World => w'.cell? ⟨vb, 2, none⟩ = some (.map (some pb)) ∧ w'.cell? ⟨vb, 1, none⟩ = some (.int .i64 (e : Int)) ∧ w'.cell? ⟨xb, 0, none⟩ = some (.int .i64 (kn : Int))) (first | exact hS.out | exact ⟨u2', u1', u0'⟩ | assumption | go_keep)
          (first | (go_at_call 70; refine (HLA.out _).mono ?_; rintro e' wq ⟨rfl, hwq⟩; obtain rfl := hwq.symm; clear hwq))
        go_wp2
        go_roundw
        case rel => exact ⟨i + 1, by omega, by go_num, HM9.out, HP9.out, HF9.out⟩
        case measure => simp [intOf]; omega
      · obtain rfl : i = m := by omega
        have HMx : Hid (Mo wr pb (plE (placesB e 0 X Pl))) := by
          have h9 := HMl.out
          rw [List.take_of_length_le (by rw [HXm.out]; omega)] at h9
          exact h9
        have HPx : Hid (okP (placesB e 0 X Pl)) := by
          have h9 := HPll.out
          rw [List.take_of_length_le (by rw [HXm.out]; omega)] at h9
          exact h9
        have hv6 := row_on HB6.out HV.out
        have hvr6 : wr.heap[vb]? = some (.cells #[.int .i64 (cnt : Int), .int .i64 (e : Int), .map (some pb)] 89 (0, 0)) := (hFl.2.2 vb (row_lt hv6) (by simpa using hvp)).trans hv6
        have hd6 : wr.heap[db]? = some (.cells #[.int .i64 3, .int .i64 (bc : Int), .int .i64 (e : Int), .slice ya i yc] 120 (0, 0)) := (hFl.2.2 db (row_lt HD6.out) (by simpa using hdp)).trans HD6.out
        have hdv : db ≠ vb := by omega
        have HBs : Hid (∀ wx, Calls Tryz.prog 71 #[.agg #[.int .i64 3, .int .i64 (bc : Int), .int .i64 (e : Int), .slice ya i yc]] wx fun e' w' => e' = .returned (.int .i64 (Z : Int)) ∧ Below wx.heap.size wx w') := fun wx => by
          rw [← hZ]
          exact bsize_any _ _ _ _ _ _ (by omega) wx
        obtain ⟨w7, hw7⟩ : ∃ w7, w7 = wr.setCell ⟨vb, 0, none⟩ (.int .i64 (bc : Int)) := ⟨_, rfl⟩
        have HF7 : Hid (Fr [vb] wr w7) := by rw [hw7]; exact Fr.of_set wr ⟨vb, 0, none⟩ _
        have HV7 : Hid (w7.heap[vb]? = some (.cells #[.int .i64 (bc : Int), .int .i64 (e : Int), .map (some pb)] 89 (0, 0))) := by
          show _ = _
          rw [hw7]
          have h9 := heap_setCell_same wr vb 0 _ _ (.int .i64 (bc : Int)) hvr6
          simpa using h9
        have HD7 : Hid (w7.heap[db]? = some (.cells #[.int .i64 3, .int .i64 (bc : Int), .int .i64 (e : Int), .slice ya i yc] 120 (0, 0))) := (HF7.out.2.2 db (row_lt hd6) (by simpa using hdv)).trans hd6
        have fk : wr.frozen? ⟨vb, 0, none⟩ = false := by simp [World.frozen?, hvr6]
        have HSK : Hid (∀ wx, Below w7.heap.size w7 wx → (fun w' : World => w'.cell? ⟨db, 0, none⟩ = some (.int .i64 3) ∧ w'.cell? ⟨db, 1, none⟩ = some (.int .i64 (bc : Int)) ∧ w'.cell? ⟨db, 2, none⟩ = some (.int .i64 (e : Int)) ∧ w'.cell? ⟨db, 3, none⟩ = some (.slice ya i yc)) wx) := fun wx hb => by
          have h1 := row_on hb HD7.out
          exact ⟨(cell_of_row wx db 0 _ _ (0, 0) h1).trans rfl, (cell_of_row wx db 1 _ _ (0, 0) h1).trans rfl, (cell_of_row wx db 2 _ _ (0, 0) h1).trans rfl, (cell_of_row wx db 3 _ _ (0, 0) h1).trans rfl⟩
        have hwe : IntKind.i64.wrap ((e : Int) + (Z : Int)) = (e : Int) + (Z : Int) := wrap_small (by omega) (by omega)
        have HFw : Hid (Fr [vb, pb] w6 w7) := (hFl.mono (fun k hk => .inl (by simp at hk; simp [hk]))).trans HF7.out (fun k hk => .inl (by simp at hk; simp [hk]))
        have HMx7 := Hid.mk' (HMx.out.fr HF7.out (by simpa using hvp.symm))
        clear hFl HMl HPll
        go_upto_region 12 with fail
        rw [← hw7]
        have l7 : w7.cell? ⟨vb, 1, none⟩ = some (.int .i64 (e : Int)) := (cell_of_row w7 vb 1 _ _ (0, 0) HV7.out).trans rfl
        have f7 : w7.frozen? ⟨vb, 1, none⟩ = false := by have h1 := HV7.out; simp [World.frozen?, h1]
        clear hw7 k0 k1 k2 fk hvr6 hv6 hd6 j0 j1 j2 j3
        refine wp_region_held_drew (S := (fun w' : World => w'.cell? ⟨db, 0, none⟩ = some (.int .i64 3) ∧ w'.cell? ⟨db, 1, none⟩ = some (.int .i64 (bc : Int)) ∧ w'.cell? ⟨db, 2, none⟩ = some (.int .i64 (e : Int)) ∧ w'.cell? ⟨db, 3, none⟩ = some (.slice ya i yc))) (by kernel_rfl) (HSK.out _ (Below.refl _ _).drew) (fun hS => ?_)
        refine wpAnyH_take (i := 0) (v := ?_) rfl (by kernel_rfl) (by kernel_rfl) (by kernel_rfl) (fun _ _ _ h => h) (Or.inl ⟨by rfl, ?_⟩) hS ?_
        rotate_left
        · (intro w hSw; (try dsimp only at hSw); go_simp; try (with_reducible rfl))
        try simp only [Act.put, List.setIfInBounds_toArray]
        refine wpAnyH_take (i := 2) (v := ?_) rfl (by kernel_rfl) (by kernel_rfl) (by kernel_rfl) (fun _ _ _ h => h) (Or.inl ⟨by rfl, ?_⟩) hS ?_
        rotate_left
        · (intro w hSw; (try dsimp only at hSw); go_simp; try (with_reducible rfl))
        try simp only [Act.put]
        refine wpAnyH_ready (rs := [1, 3]) (by kernel_rfl) (by simp) ?_
        refine (AllReadyH.cons rfl (fun K hK => ?_) (AllReadyH.cons rfl (fun K hK => ?_) AllReadyH.nil))
        · go_simp
          refine hK.out _ _ (HSK.out _ (by first | exact (Below.refl w7.heap.size w7).drew | exact HB8.out)) (fun hS => ?_)
          clear hK K
          try simp only [Act.put, List.setIfInBounds_toArray, List.set_cons_zero, List.set_cons_succ]
          refine wpAnyH_ready (rs := [3]) (by kernel_rfl) (by simp) ?_
          refine (AllReadyH.cons rfl (fun K hK => ?_) AllReadyH.nil)
          go_simp
          go_wp2_with (go_at_call 71; refine (HBs.out _).mono ?_; rintro e' w8 ⟨rfl, hb8⟩)
          have hb8' : Below w7.heap.size w7 w8 := (Below.refl _ _).drew.trans hb8
          have HB8 := Hid.mk' hb8'
          have l1 : w8.cell? ⟨vb, 1, none⟩ = some (.int .i64 (e : Int)) := cell_on hb8' l7
          have fz8 : w8.frozen? ⟨vb, 1, none⟩ = false := by (have h1 := row_on hb8' HV7.out; simp [World.frozen?, h1])
          clear hb8 hb8'
          refine hK.out _ _ (HSK.out _ HB8.out) (fun hS => ?_)
          clear hK K
          try simp only [Act.put, List.setIfInBounds_toArray, List.set_cons_zero, List.set_cons_succ]
          refine wpAnyH_take (i := 4) (v := ?_) rfl (by kernel_rfl) (by kernel_rfl) (by kernel_rfl) (fun _ _ _ h => h) (Or.inl ⟨by rfl, ?_⟩) hS ?_
          rotate_left
          · (intro w hSw; (try dsimp only at hSw); go_simp; try (with_reducible rfl))
          try simp only [Act.put, List.setIfInBounds_toArray]
          refine wpAnyH_take (i := 5) (v := ?_) rfl (by kernel_rfl) (by kernel_rfl) (by kernel_rfl) (fun _ _ _ h => h) (Or.inl ⟨by rfl, ?_⟩) hS ?_
          rotate_left
          · (intro w hSw; (try dsimp only at hSw); go_simp; try (with_reducible rfl))
          try simp only [Act.put]
          refine wpAnyH_ready (rs := [6]) (by kernel_rfl) (by simp) ?_
          refine (AllReadyH.cons rfl (fun K hK => ?_) AllReadyH.nil)
          go_simp
          refine hK.out _ _ (by (have h1 := HSK.out _ HB8.out; have hF := Fr.of_set w8 ⟨vb, 1, none⟩ (.int .i64 ((e : Int) + (Z : Int))); exact ⟨hF.cell h1.1 (by simpa using hdv), hF.cell h1.2.1 (by simpa using hdv), hF.cell h1.2.2.1 (by simpa using hdv), hF.cell h1.2.2.2 (by simpa using hdv)⟩)) (fun hS => ?_)
          clear hK K
          try simp only [Act.put, List.setIfInBounds_toArray, List.set_cons_zero, List.set_cons_succ]
          refine wpAnyH_done (by kernel_rfl) ?_ _
          obtain ⟨w9, hw9⟩ : ∃ w9, w9 = w8.setCell ⟨vb, 1, none⟩ (.int .i64 ((e : Int) + (Z : Int))) := ⟨_, rfl⟩
          have HV8 := Hid.mk' (row_on HB8.out HV7.out)
          have HF9 : Hid (Fr [vb] w8 w9) := by rw [hw9]; exact Fr.of_set w8 ⟨vb, 1, none⟩ _
          have HV9 : Hid (w9.heap[vb]? = some (.cells #[.int .i64 (bc : Int), .int .i64 ((e : Int) + (Z : Int)), .map (some pb)] 89 (0, 0))) := by (show _ = _; rw [hw9]; have h9 := heap_setCell_same w8 vb 1 _ _ (.int .i64 ((e : Int) + (Z : Int))) HV8.out; simpa using h9)
          have HD9 : Hid (w9.heap[db]? = some (.cells #[.int .i64 3, .int .i64 (bc : Int), .int .i64 (e : Int), .slice ya i yc] 120 (0, 0))) := (HF9.out.2.2 db (row_lt (row_on HB8.out HD7.out)) (by simpa using hdv)).trans (row_on HB8.out HD7.out)
          have i0 : w9.cell? ⟨db, 0, none⟩ = some (.int .i64 3) := (cell_of_row w9 db 0 _ _ (0, 0) HD9.out).trans rfl
          have i1 : w9.cell? ⟨db, 1, none⟩ = some (.int .i64 (bc : Int)) := (cell_of_row w9 db 1 _ _ (0, 0) HD9.out).trans rfl
          have i2 : w9.cell? ⟨db, 2, none⟩ = some (.int .i64 (e : Int)) := (cell_of_row w9 db 2 _ _ (0, 0) HD9.out).trans rfl
          have i3 : w9.cell? ⟨db, 3, none⟩ = some (.slice ya i yc) := (cell_of_row w9 db 3 _ _ (0, 0) HD9.out).trans rfl
          have HFx : Hid (Fr [vb, pb] w6 w9) := (HFw.out.trans (Fr.of_below (fs := []) HB8.out) (fun k hk => by cases hk)).trans HF9.out (fun k hk => .inl (by simp at hk; simp [hk]))
          have HMx9 := Hid.mk' ((HMx7.out.on HB8.out).fr HF9.out (by simpa using hvp.symm))
          rw [← hw9]
          clear hw9 hS l7 f7 l1 fz8
          go_wp2_with fail
          refine (HBs.out w9).mono ?_
          rintro e' w10 ⟨rfl, hb10⟩
          have HI : Hid (LkI w cnt0 B rb vb pb gb va2 r2 vc2 w10) := by
            have hF10 : Fr [vb, pb] w6 w10 := HFx.out.trans (Fr.of_below (fs := []) hb10) (fun k hk => by cases hk)
            have hb0 : Below w.heap.size w6 w10 := hF10.below HBw6.out.size (fun k hk => by simp at hk; omega)
            have hs6 : Sees w6 (.slice (some ⟨gb, e, none⟩) r vc) (logB e ((bc, X) :: B2)) := HSe.out.below HB6.out
            have hs10 : Sees w10 (.slice (some ⟨gb, e, none⟩) r vc) (logB e ((bc, X) :: B2)) := hF10.sees hs6 (fun a1 n1 c1 e1 hm1 => by simp at e1 hm1; obtain ⟨rfl, _⟩ := e1; simp at hm1; omega)
            refine ⟨B1 ++ [(bc, X)], B2, bc, e + Z, placesB e 0 X Pl, by rw [HBe.out]; simp, ?_, HR2.out, fun h1 => ⟨HVA.out h1, Nat.lt_of_lt_of_le (Nat.lt_of_lt_of_le HGw.out HB6.out.size) hF10.2.1⟩, hvr.1, hvr.2, HVB.out w10 (HBw6.out.trans hb0) hs10, ?_, HMx9.out.on hb10, HPx.out, ?_, ⟨hwr, hwv, hwp, hvp, hgv, hgp⟩, by omega, HBw6.out.trans hb0⟩
            · have h9 := lkB_push (bc, X) B1 cnt0 0 [] cnt e Pl HLk.out
              rw [HSZ.out] at h9
              exact h9
            · have h9 := row_on hb10 HV9.out
              rw [← Int.natCast_add] at h9
              exact h9
            · exact (hF10.2.2 rb (Nat.lt_of_lt_of_le hrw2 HB6.out.size) (by simp; exact ⟨fun h => hvr3 h.symm, fun h => hpr3 h.symm⟩)).trans (row_on HB6.out HZ.out)
          clear hb10 HMx9 HFx HV9 HD9
          go_wp2
          go_step3
          exact ⟨rfl, ⟨_, _, _, _, _, _, _, _, _, lkT_of _ rfl, HI.out⟩, hrz⟩
        · go_simp
          go_wp2_with (go_at_call 71; refine (HBs.out _).mono ?_; rintro e' w8 ⟨rfl, hb8⟩)
          have hb8' : Below w7.heap.size w7 w8 := (Below.refl _ _).drew.trans hb8
          have HB8 := Hid.mk' hb8'
          have l1 : w8.cell? ⟨vb, 1, none⟩ = some (.int .i64 (e : Int)) := cell_on hb8' l7
          have fz8 : w8.frozen? ⟨vb, 1, none⟩ = false := by (have h1 := row_on hb8' HV7.out; simp [World.frozen?, h1])
          clear hb8 hb8'
          refine hK.out _ _ (HSK.out _ HB8.out) (fun hS => ?_)
          clear hK K
          try simp only [Act.put, List.setIfInBounds_toArray, List.set_cons_zero, List.set_cons_succ]
          refine wpAnyH_ready (rs := [1]) (by kernel_rfl) (by simp) ?_
          refine (AllReadyH.cons rfl (fun K hK => ?_) AllReadyH.nil)
          go_simp
          refine hK.out _ _ (HSK.out _ (by first | exact (Below.refl w7.heap.size w7).drew | exact HB8.out)) (fun hS => ?_)
          clear hK K
          try simp only [Act.put, List.setIfInBounds_toArray, List.set_cons_zero, List.set_cons_succ]
          refine wpAnyH_take (i := 4) (v := ?_) rfl (by kernel_rfl) (by kernel_rfl) (by kernel_rfl) (fun _ _ _ h => h) (Or.inl ⟨by rfl, ?_⟩) hS ?_
          rotate_left
          · (intro w hSw; (try dsimp only at hSw); go_simp; try (with_reducible rfl))
          try simp only [Act.put, List.setIfInBounds_toArray]
          refine wpAnyH_take (i := 5) (v := ?_) rfl (by kernel_rfl) (by kernel_rfl) (by kernel_rfl) (fun _ _ _ h => h) (Or.inl ⟨by rfl, ?_⟩) hS ?_
          rotate_left
          · (intro w hSw; (try dsimp only at hSw); go_simp; try (with_reducible rfl))
          try simp only [Act.put]
          refine wpAnyH_ready (rs := [6]) (by kernel_rfl) (by simp) ?_
          refine (AllReadyH.cons rfl (fun K hK => ?_) AllReadyH.nil)
          go_simp
          refine hK.out _ _ (by (have h1 := HSK.out _ HB8.out; have hF := Fr.of_set w8 ⟨vb, 1, none⟩ (.int .i64 ((e : Int) + (Z : Int))); exact ⟨hF.cell h1.1 (by simpa using hdv), hF.cell h1.2.1 (by simpa using hdv), hF.cell h1.2.2.1 (by simpa using hdv), hF.cell h1.2.2.2 (by simpa using hdv)⟩)) (fun hS => ?_)
          clear hK K
          try simp only [Act.put, List.setIfInBounds_toArray, List.set_cons_zero, List.set_cons_succ]
          refine wpAnyH_done (by kernel_rfl) ?_ _
          obtain ⟨w9, hw9⟩ : ∃ w9, w9 = w8.setCell ⟨vb, 1, none⟩ (.int .i64 ((e : Int) + (Z : Int))) := ⟨_, rfl⟩
          have HV8 := Hid.mk' (row_on HB8.out HV7.out)
          have HF9 : Hid (Fr [vb] w8 w9) := by rw [hw9]; exact Fr.of_set w8 ⟨vb, 1, none⟩ _
          have HV9 : Hid (w9.heap[vb]? = some (.cells #[.int .i64 (bc : Int), .int .i64 ((e : Int) + (Z : Int)), .map (some pb)] 89 (0, 0))) := by (show _ = _; rw [hw9]; have h9 := heap_setCell_same w8 vb 1 _ _ (.int .i64 ((e : Int) + (Z : Int))) HV8.out; simpa using h9)
          have HD9 : Hid (w9.heap[db]? = some (.cells #[.int .i64 3, .int .i64 (bc : Int), .int .i64 (e : Int), .slice ya i yc] 120 (0, 0))) := (HF9.out.2.2 db (row_lt (row_on HB8.out HD7.out)) (by simpa using hdv)).trans (row_on HB8.out HD7.out)
          have i0 : w9.cell? ⟨db, 0, none⟩ = some (.int .i64 3) := (cell_of_row w9 db 0 _ _ (0, 0) HD9.out).trans rfl
          have i1 : w9.cell? ⟨db, 1, none⟩ = some (.int .i64 (bc : Int)) := (cell_of_row w9 db 1 _ _ (0, 0) HD9.out).trans rfl
          have i2 : w9.cell? ⟨db, 2, none⟩ = some (.int .i64 (e : Int)) := (cell_of_row w9 db 2 _ _ (0, 0) HD9.out).trans rfl
          have i3 : w9.cell? ⟨db, 3, none⟩ = some (.slice ya i yc) := (cell_of_row w9 db 3 _ _ (0, 0) HD9.out).trans rfl
          have HFx : Hid (Fr [vb, pb] w6 w9) := (HFw.out.trans (Fr.of_below (fs := []) HB8.out) (fun k hk => by cases hk)).trans HF9.out (fun k hk => .inl (by simp at hk; simp [hk]))
          have HMx9 := Hid.mk' ((HMx7.out.on HB8.out).fr HF9.out (by simpa using hvp.symm))
          rw [← hw9]
          clear hw9 hS l7 f7 l1 fz8
          go_wp2_with fail
          refine (HBs.out w9).mono ?_
          rintro e' w10 ⟨rfl, hb10⟩
          have HI : Hid (LkI w cnt0 B rb vb pb gb va2 r2 vc2 w10) := by
            have hF10 : Fr [vb, pb] w6 w10 := HFx.out.trans (Fr.of_below (fs := []) hb10) (fun k hk => by cases hk)
            have hb0 : Below w.heap.size w6 w10 := hF10.below HBw6.out.size (fun k hk => by simp at hk; omega)
            have hs6 : Sees w6 (.slice (some ⟨gb, e, none⟩) r vc) (logB e ((bc, X) :: B2)) := HSe.out.below HB6.out
            have hs10 : Sees w10 (.slice (some ⟨gb, e, none⟩) r vc) (logB e ((bc, X) :: B2)) := hF10.sees hs6 (fun a1 n1 c1 e1 hm1 => by simp at e1 hm1; obtain ⟨rfl, _⟩ := e1; simp at hm1; omega)
            refine ⟨B1 ++ [(bc, X)], B2, bc, e + Z, placesB e 0 X Pl, by rw [HBe.out]; simp, ?_, HR2.out, fun h1 => ⟨HVA.out h1, Nat.lt_of_lt_of_le (Nat.lt_of_lt_of_le HGw.out HB6.out.size) hF10.2.1⟩, hvr.1, hvr.2, HVB.out w10 (HBw6.out.trans hb0) hs10, ?_, HMx9.out.on hb10, HPx.out, ?_, ⟨hwr, hwv, hwp, hvp, hgv, hgp⟩, by omega, HBw6.out.trans hb0⟩
            · have h9 := lkB_push (bc, X) B1 cnt0 0 [] cnt e Pl HLk.out
              rw [HSZ.out] at h9
              exact h9
            · have h9 := row_on hb10 HV9.out
              rw [← Int.natCast_add] at h9
              exact h9
            · exact (hF10.2.2 rb (Nat.lt_of_lt_of_le hrw2 HB6.out.size) (by simp; exact ⟨fun h => hvr3 h.symm, fun h => hpr3 h.symm⟩)).trans (row_on HB6.out HZ.out)
          clear hb10 HMx9 HFx HV9 HD9
          go_wp2
          go_step3
          exact ⟨rfl, ⟨_, _, _, _, _, _, _, _, _, lkT_of _ rfl, HI.out⟩, hrz⟩
end Go.Proofs.YtjimhikfmccicaaGreat
