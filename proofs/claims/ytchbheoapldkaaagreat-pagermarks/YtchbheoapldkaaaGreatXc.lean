/-
  The looks at a disk with whatever troubles, its power on: there, size, read, settle, fold and look without journal and log, Open, Begin.
-/
import Derived.Test.YtchbheoapldkaaaGreatMg21
import Derived.Test.YtchbheoapldkaaaGreatMg22
namespace Go.Proofs.YtchbheoapldkaaaGreat
open Go.RowKit Go.Maps

/-- A disk whose power is on, whatever goes wrong with it: its files A, its blocks F. -/
def Dl (w : World) (D : Nat) (A : List AF) (F : List Nat) : Prop := ∃ f s, Dg f w D A s false F
theorem Dl.lt {w : World} {D : Nat} {A : List AF} {F : List Nat} (h : Dl w D A F) : ∀ k ∈ F, k < w.heap.size := by
  obtain ⟨f, s, h⟩ := h
  exact h.lt
theorem Dl.fr {w w' : World} {D : Nat} {A : List AF} {F : List Nat} (h : Dl w D A F) {fs : List Nat} (hF : Fr fs w w') (hn : ∀ k ∈ F, k ∉ fs) : Dl w' D A F := by
  obtain ⟨f, s, h⟩ := h
  exact ⟨f, s, h.fr hF hn⟩
theorem Dl.on {w w' : World} {D : Nat} {A : List AF} {F : List Nat} (h : Dl w D A F) (hb : Below w.heap.size w w') : Dl w' D A F := h.fr (Fr.of_below (fs := []) hb) (fun _ _ hk => by cases hk)
theorem Dl.len {w : World} {D : Nat} {A : List AF} {F : List Nat} (h : Dl w D A F) (t : ByteArray) : (seenA A t).length ≤ 4194304 := by
  obtain ⟨f, s, h⟩ := h
  exact h.len t
theorem dsize_l {w : World} {D : Nat} {A : List AF} {F : List Nat} (h : Dl w D A F) (t : ByteArray) (ht : M.nam t = true) : Calls Tryz.prog 90 #[.pointer (some ⟨D, 0, none⟩), .string t] w fun e w' => e = .returned (.tuple #[.int .i64 ((seenA A t).length : Nat), .int .i64 (errA A t)]) ∧ Below w.heap.size w w' := by
  obtain ⟨f, s, mb, dv, L, hD, hr, rfl, rfl⟩ := h
  unfold seenA errA
  rw [nmA_fabs]
  by_cases hh : M.has (names L) t = true
  · rw [if_pos hh, if_pos hh, fabs_getD]
    exact size_there hD hr t ht hh
  · rw [if_neg hh, if_neg hh]
    exact size_none hD hr t ht (by simpa using hh)

theorem dread_l {w : World} {D : Nat} {A : List AF} {F : List Nat} (h : Dl w D A F) (t : ByteArray) (ht : M.nam t = true) (p m : Nat) (hp : p ≤ 4194304) (hm : m ≤ 4194304) : Calls Tryz.prog 96 #[.pointer (some ⟨D, 0, none⟩), .string t, .int .i64 p, .int .i64 m] w fun e w' => ∃ a c, e = .returned (.tuple #[.slice a (((seenA A t).drop p).take m).length c, .int .i64 (errA A t)]) ∧ Rw w' (.slice a (((seenA A t).drop p).take m).length c) (((seenA A t).drop p).take m) ∧ (∀ k, (Value.slice a (((seenA A t).drop p).take m).length c).ownBlock = some k → w.heap.size ≤ k) ∧ Below w.heap.size w w' := by
  obtain ⟨f, s, mb, dv, L, hD, hr, rfl, rfl⟩ := h
  unfold seenA errA
  rw [nmA_fabs]
  by_cases hh : M.has (names L) t = true
  · rw [if_pos hh, if_pos hh, fabs_getD]
    refine (read_any hD hr t ht hh p m hp hm).mono ?_
    rintro e w1 ⟨v', rfl, hR, hb1, hf1⟩
    obtain ⟨a, c, rfl, _, _⟩ := hR.slice
    exact ⟨a, c, rfl, hR, hf1, hb1⟩
  · rw [if_neg hh, if_neg hh]
    refine (read_none hD hr t ht (by simpa using hh) p m ⟨by omega, by omega⟩ ⟨by omega, by omega⟩).mono ?_
    rintro e w1 ⟨rfl, hb⟩
    exact ⟨none, 0, by simp, by simpa using Rw.nil w1, fun k hk => by simp [Value.ownBlock] at hk, hb⟩

set_option maxRecDepth 100000 in
set_option maxHeartbeats 400000 in
theorem there_l {w : World} {P D : Nat} {A : List AF} {F : List Nat} (h : Dl w D A F) (hS : Ss w P D) (t : ByteArray) (ht : M.nam t = true) : Calls Tryz.prog 59 #[.pointer (some ⟨P, 0, none⟩), .string t] w fun e w' => e = .returned (.bool (M.has (nmA A) t)) ∧ Below w.heap.size w w' := by
  obtain ⟨c0, _, _⟩ := hS.cells
  have HD := Hid.mk' (dsize_l h t ht)
  have HS := Hid.mk' hS
  clear h hS
  go_enter Tryz.func59, Tryz.ntmps59
  go_wp2_with fail
  refine HD.out.mono ?_
  rintro e w1 ⟨rfl, hb1⟩
  have HB := Hid.mk' hb1
  have HF := Hid.mk' (found_any (HS.out.on hb1) (M.has (nmA A) t) (errA A t) rfl)
  clear hb1
  go_wp2_with fail
  refine HF.out.mono ?_
  rintro e w2 ⟨rfl, hw⟩
  obtain rfl := hw.symm
  clear hw
  go_wp2
  go_ret
  exact ⟨rfl, HB.out⟩

set_option maxRecDepth 100000 in
set_option maxHeartbeats 400000 in
theorem ssize_l {w : World} {P D : Nat} {A : List AF} {F : List Nat} (h : Dl w D A F) (hS : Ss w P D) (t : ByteArray) (ht : M.nam t = true) : Calls Tryz.prog 67 #[.pointer (some ⟨P, 0, none⟩), .string t] w fun e w' => e = .returned (.int .i64 ((seenA A t).length : Nat)) ∧ Below w.heap.size w w' := by
  obtain ⟨c0, _, _⟩ := hS.cells
  have HD := Hid.mk' (dsize_l h t ht)
  have HS := Hid.mk' hS
  clear h hS
  go_enter Tryz.func67, Tryz.ntmps67
  go_wp2_with fail
  refine HD.out.mono ?_
  rintro e w1 ⟨rfl, hb1⟩
  have HB := Hid.mk' hb1
  have HF := Hid.mk' (found_any (HS.out.on hb1) (M.has (nmA A) t) (errA A t) rfl)
  clear hb1
  go_wp2_with fail
  refine HF.out.mono ?_
  rintro e w2 ⟨rfl, hw⟩
  obtain rfl := hw.symm
  clear hw
  go_wp2
  go_ret
  exact ⟨rfl, HB.out⟩

set_option maxRecDepth 100000 in
set_option maxHeartbeats 400000 in
theorem sread_l {w : World} {P D : Nat} {A : List AF} {F : List Nat} (h : Dl w D A F) (hS : Ss w P D) (t : ByteArray) (ht : M.nam t = true) (p m : Nat) (hp : p ≤ 4194304) (hm : m ≤ 4194304) (l : List Nat) (hl : ((seenA A t).drop p).take m = l) :
    Calls Tryz.prog 61 #[.pointer (some ⟨P, 0, none⟩), .string t, .int .i64 p, .int .i64 m] w fun e w' => ∃ a c, e = .returned (.slice a l.length c) ∧ Rw w' (.slice a l.length c) l ∧ (∀ k, (Value.slice a l.length c).ownBlock = some k → w.heap.size ≤ k) ∧ Below w.heap.size w w' := by
  obtain ⟨c0, _, _⟩ := hS.cells
  have HD := Hid.mk' (dread_l h t ht p m hp hm)
  rw [hl] at HD
  have HS := Hid.mk' hS
  clear h hS hl
  go_enter Tryz.func61, Tryz.ntmps61
  go_wp2_with fail
  refine HD.out.mono ?_
  rintro e w1 ⟨a, c, rfl, hR1, hf1, hb1⟩
  have HR := Hid.mk' hR1
  have HF1 := Hid.mk' hf1
  have HB := Hid.mk' hb1
  have HF := Hid.mk' (found_any (HS.out.on hb1) (M.has (nmA A) t) (errA A t) rfl)
  clear hb1 hR1 hf1
  go_wp2_with fail
  refine HF.out.mono ?_
  rintro e w2 ⟨rfl, hw⟩
  obtain rfl := hw.symm
  clear hw
  go_wp2
  go_ret
  exact ⟨a, c, rfl, HR.out, HF1.out, HB.out⟩

set_option maxRecDepth 100000 in
set_option maxHeartbeats 400000 in
theorem settle_l {w : World} {P D : Nat} {A : List AF} {F : List Nat} (h : Dl w D A F) (hS : Ss w P D) (hj : M.has (nmA A) jourN = false) : Calls Tryz.prog 37 #[.pointer (some ⟨P, 0, none⟩)] w fun e w' => e = .returned (.tuple #[]) ∧ Below w.heap.size w w' := by
  have HT := Hid.mk' (there_l h hS jourN nam_jour)
  rw [hj] at HT
  clear h hS hj
  go_enter Tryz.func37, Tryz.ntmps37
  go_wp2_with fail
  refine HT.out.mono ?_
  rintro e w1 ⟨rfl, hb1⟩
  have HB := Hid.mk' hb1
  clear hb1
  go_wp2
  refine bodyPost_ret (results_none rfl _ _ _) rfl ?_
  exact ⟨rfl, HB.out⟩

set_option maxRecDepth 100000 in
set_option maxHeartbeats 400000 in
theorem fold_l {w : World} {P D : Nat} {A : List AF} {F : List Nat} (h : Dl w D A F) (hS : Ss w P D) (hj : M.has (nmA A) logN = false) : Calls Tryz.prog 52 #[.pointer (some ⟨P, 0, none⟩)] w fun e w' => e = .returned (.tuple #[]) ∧ Below w.heap.size w w' := by
  have HT := Hid.mk' (there_l h hS logN nam_log)
  rw [hj] at HT
  clear h hS hj
  go_enter Tryz.func52, Tryz.ntmps52
  go_wp2_with fail
  refine HT.out.mono ?_
  rintro e w1 ⟨rfl, hb1⟩
  have HB := Hid.mk' hb1
  clear hb1
  go_wp2
  refine bodyPost_ret (results_none rfl _ _ _) rfl ?_
  exact ⟨rfl, HB.out⟩

set_option maxRecDepth 100000 in
set_option maxHeartbeats 1000000 in
theorem slook_l {w : World} {P D : Nat} {A : List AF} {F : List Nat} (h : Dl w D A F) (hS : Ss w P D) (hl : seenA A logN = []) : Calls Tryz.prog 38 #[.pointer (some ⟨P, 0, none⟩)] w fun e w' => ∃ pb, e = .returned (.agg #[.int .i64 (cntA A : Nat), .int .i64 0, .map (some pb)]) ∧ w'.heap[pb]? = some (.map #[] 0) ∧ w.heap.size ≤ pb ∧ Below w.heap.size w w' := by
  have HSz := Hid.mk' (fun (wx : World) (hb : Below w.heap.size w wx) => ssize_l (h.on hb) (hS.on hb) baseN nam_base)
  have hlen := h.len baseN
  have HRd := Hid.mk' (fun (wx : World) (hb : Below w.heap.size w wx) => sread_l (h.on hb) (hS.on hb) logN nam_log 0 4194304 (by omega) (by omega) [] (by rw [hl]; rfl))
  have hB : (⟨#[98, 97, 115, 101]⟩ : ByteArray) = baseN := rfl
  have hG : (⟨#[98, 97, 115, 101, 45, 108, 111, 103]⟩ : ByteArray) = logN := rfl
  have hmm := @run_makeMap Tryz.prog
  obtain ⟨bl, hbl⟩ : ∃ n, (seenA A baseN).length = n := ⟨_, rfl⟩
  rw [hbl] at HSz hlen
  obtain ⟨q, hq⟩ : ∃ q, (bl + 511) / 512 = q := ⟨_, rfl⟩
  have hmin : (if (4096 : Int) < (q : Int) then (4096 : Int) else (q : Int)) = (cntA A : Int) := by
    unfold cntA
    rw [hbl, hq]
    split <;> omega
  have hmin2 : min (q : Int) 4096 = (cntA A : Int) := by
    unfold cntA
    rw [hbl, hq]
    omega
  clear hmin
  generalize cntA A = m at *
  have HPo := Hid.mk' (fun (wx : World) => pagesof_any bl hlen wx)
  rw [hq] at HPo
  clear h hS hl hbl hq
  go_enter Tryz.func38, Tryz.ntmps38
  go_wp2_with fail
  go_step3
  go_wp2_with fail
  refine (HSz.out _ ((Below.refl _ _).alloc (Nat.le_refl _) _)).mono ?_
  rintro e w1 ⟨rfl, hb1⟩
  have HB1 : Hid (Below w.heap.size w w1) := ((Below.refl _ _).alloc (Nat.le_refl _) _).trans (hb1.mono (by simp))
  have HZ1 : Hid (w1.heap[w.heap.size]? = some (.cells #[.int .i64 0, .int .i64 0, .map none] 91 (0, 0))) := row_on hb1 (heap_alloc_new w _)
  have hz1 : w.heap.size < w1.heap.size := Nat.lt_of_lt_of_le (by simp) hb1.size
  clear hb1
  go_wp2_with fail
  refine (HPo.out w1).mono ?_
  rintro e w2 ⟨rfl, hw⟩
  obtain rfl := hw.symm
  clear hw
  obtain ⟨w3, hw3⟩ : ∃ w3, w3 = (w1.alloc (.map #[] 0)).alloc (.cells #[.int .i64 (m : Int), .int .i64 0, .map (some w1.heap.size)] 91) := ⟨_, rfl⟩
  have HB3 : Hid (Below w.heap.size w w3) := by rw [hw3]; exact (HB1.out.alloc HB1.out.size _).alloc (by simpa using Nat.le_succ_of_le HB1.out.size) _
  have HM3 : Hid (w3.heap[w1.heap.size]? = some (.map #[] 0)) := by
    show _ = _
    rw [hw3, Below.heap_alloc _ _ _ (by simp)]
    exact heap_alloc_new w1 _
  have k0 : w3.cell? ⟨w1.heap.size + 1, 0, none⟩ = some (.int .i64 (m : Int)) := by
    rw [hw3, show w1.heap.size + 1 = (w1.alloc (.map #[] 0)).heap.size by simp, World.cell?_alloc_at _ _ _ _ rfl]; rfl
  have k1 : w3.cell? ⟨w1.heap.size + 1, 1, none⟩ = some (.int .i64 0) := by
    rw [hw3, show w1.heap.size + 1 = (w1.alloc (.map #[] 0)).heap.size by simp, World.cell?_alloc_at _ _ _ _ rfl]; rfl
  have k2 : w3.cell? ⟨w1.heap.size + 1, 2, none⟩ = some (.map (some w1.heap.size)) := by
    rw [hw3, show w1.heap.size + 1 = (w1.alloc (.map #[] 0)).heap.size by simp, World.cell?_alloc_at _ _ _ _ rfl]; rfl
  have HZ3 : Hid (w3.heap[w.heap.size]? = some (.cells #[.int .i64 0, .int .i64 0, .map none] 91 (0, 0))) := by
    rw [hw3]
    show _ = _
    rw [Below.heap_alloc _ _ _ (by simp; omega), Below.heap_alloc _ _ _ hz1]
    exact HZ1.out
  go_upto_region 2 with fail
  rw [← hw3]
  clear hw3
  generalize w1.heap.size + 1 = vb at *
  have hpb : w.heap.size ≤ w1.heap.size := HB1.out.size
  generalize w1.heap.size = pb at *
  go_wp2_with fail
  refine (HRd.out w3 HB3.out).mono ?_
  rintro e w4 ⟨ra, rc, rfl, hR4, _, hb4⟩
  replace k0 := cell_on hb4 k0
  replace k1 := cell_on hb4 k1
  replace k2 := cell_on hb4 k2
  have HB4 : Hid (Below w.heap.size w w4) := HB3.out.trans (hb4.mono HB3.out.size)
  have HM4 : Hid (w4.heap[pb]? = some (.map #[] 0)) := row_on hb4 HM3.out
  have HZ4 := Hid.mk' (row_on hb4 HZ3.out)
  clear hb4 HM3 HB3 hR4 HZ3 HZ1
  go_wp2_with fail
  go_step3
  go_wp2_with fail
  refine (decode_few _ _ _ (by simp) w4).mono ?_
  rintro e w5 ⟨rfl, hb5⟩
  replace k0 := cell_on hb5 k0
  replace k1 := cell_on hb5 k1
  replace k2 := cell_on hb5 k2
  have HB5 : Hid (Below w.heap.size w w5) := HB4.out.trans (hb5.mono HB4.out.size)
  have HM5 : Hid (w5.heap[pb]? = some (.map #[] 0)) := row_on hb5 HM4.out
  have HZ5 := Hid.mk' (row_on hb5 HZ4.out)
  clear hb5 HM4 HB4 HZ4
  obtain ⟨w6, hw6⟩ : ∃ w6, w6 = w5.alloc (.cells #[.int .i64 0, .int .i64 0, .int .i64 0, .slice none 0 0] 119) := ⟨_, rfl⟩
  have hb6 : Below w5.heap.size w5 w6 := by rw [hw6]; exact (Below.refl _ _).alloc (Nat.le_refl _) _
  have j0 : w6.cell? ⟨w5.heap.size, 0, none⟩ = some (.int .i64 0) := by rw [hw6]; simp
  go_upto_region 4 with fail
  rw [← hw6]
  clear hw6
  replace k0 := cell_on hb6 k0
  replace k1 := cell_on hb6 k1
  replace k2 := cell_on hb6 k2
  have HB6 : Hid (Below w.heap.size w w6) := HB5.out.trans (hb6.mono HB5.out.size)
  have HM6 : Hid (w6.heap[pb]? = some (.map #[] 0)) := row_on hb6 HM5.out
  have HZ6 := Hid.mk' (row_on hb6 HZ5.out)
  have z0 : w6.cell? ⟨w.heap.size, 0, none⟩ = some (.int .i64 0) := (cell_of_row _ _ 0 _ _ (0, 0) HZ6.out).trans rfl
  have z1 : w6.cell? ⟨w.heap.size, 1, none⟩ = some (.int .i64 0) := (cell_of_row _ _ 1 _ _ (0, 0) HZ6.out).trans rfl
  have z2 : w6.cell? ⟨w.heap.size, 2, none⟩ = some (.map none) := (cell_of_row _ _ 2 _ _ (0, 0) HZ6.out).trans rfl
  have f0 : w6.frozen? ⟨w.heap.size, 0, none⟩ = false := by have h1 := HZ6.out; simp [World.frozen?, h1]
  have f1 : w6.frozen? ⟨w.heap.size, 1, none⟩ = false := by have h1 := HZ6.out; simp [World.frozen?, h1]
  have f2 : w6.frozen? ⟨w.heap.size, 2, none⟩ = false := by have h1 := HZ6.out; simp [World.frozen?, h1]
  clear hb6 HM5 HB5 HZ5
  generalize w5.heap.size = bb at *
  have hpz : pb ≠ w.heap.size := fun e => by
    have h1 := HM6.out
    rw [e, HZ6.out] at h1
    cases h1
  go_wp2_with fail
  rw [Exit.noGoto_ret]
  refine bodyPost_ret ?_ rfl ⟨pb, rfl, ?_, hpb, ?_⟩
  · simp [results, Tryz.results38, go_sem, z0, z1, z2]
  · rw [Below.heap_setCell _ _ _ _ hpz, Below.heap_setCell _ _ _ _ hpz, Below.heap_setCell _ _ _ _ hpz]
    exact HM6.out
  · exact ((HB6.out.setCell (p := ⟨w.heap.size, 0, none⟩) (Nat.le_refl _) _).setCell (p := ⟨w.heap.size, 1, none⟩) (Nat.le_refl _) _).setCell (p := ⟨w.heap.size, 2, none⟩) (Nat.le_refl _) _

set_option maxRecDepth 100000 in
set_option maxHeartbeats 1000000 in
theorem open_l {w : World} {D : Nat} {A : List AF} {F : List Nat} (h : Dl w D A F) (hj : M.has (nmA A) jourN = false) (md c : Int) (lb : Nat) (hm : md = 1 ∨ md = 2) (hc : 0 ≤ c ∧ c < 4) :
    Calls Tryz.prog 28 #[.pointer (some ⟨D, 0, none⟩), .int .i64 md, .pointer (some ⟨lb, 0, none⟩), .int .i64 c] w fun e w' => e = .returned (.tuple #[.pointer (some ⟨w.heap.size, 0, none⟩), .int .i64 0]) ∧ Pg w' w.heap.size D md lb c 1 0 0 none 0 none none 0 0 0 ∧ Below w.heap.size w w' := by
  obtain ⟨w1, hw1⟩ : ∃ w1, w1 = w.alloc (.cells #[.pointer (some ⟨D, 0, none⟩), .int .i64 0, .int .i64 md, .pointer (some ⟨lb, 0, none⟩), .int .i64 c, .int .i64 1, .int .i64 0, .int .i64 0, .map none, .int .i64 0, .map none, .slice none 0 0, .int .i64 0] 97) := ⟨_, rfl⟩
  have hb1 : Below w.heap.size w w1 := by rw [hw1]; exact (Below.refl _ _).alloc (Nat.le_refl _) _
  have HP1 : Hid (Pg w1 w.heap.size D md lb c 1 0 0 none 0 none none 0 0 0) := by rw [hw1]; exact heap_alloc_new w _
  have HSt := Hid.mk' (settle_l (h.on hb1) HP1.out.ss hj)
  have HB1 := Hid.mk' hb1
  have n1 : ¬ c < 0 := by omega
  have n2 : ¬ 4 ≤ c := by omega
  clear h hj hb1
  rcases hm with rfl | rfl
  all_goals
    go_enter Tryz.func28, Tryz.ntmps28
    go_upto_region 4 with fail
    rw [← hw1]
    clear hw1
    go_wp2_with fail
    refine HSt.out.mono ?_
    rintro e w2 ⟨rfl, hb2⟩
    have HP2 := Hid.mk' (HP1.out.on hb2)
    have HB2 := Hid.mk' (HB1.out.trans (hb2.mono HB1.out.size))
    have c1 := HP2.out.c1
    clear hb2
    go_wp2
    go_ret2
    refine ⟨?_, HP2.out, HB2.out⟩
    rfl

set_option maxRecDepth 100000 in
set_option maxHeartbeats 2000000 in
theorem begin_l {w : World} {P D : Nat} {A : List AF} {F : List Nat} {md : Int} {lb : Nat} {c : Int} {l : M.Lv} (hD : Dl w D A F) (hj : M.has (nmA A) jourN = false) (hl : seenA A logN = []) (hP : Pg w P D md lb c 1 0 0 none 0 none none 0 0 0) (hT : Tb w lb 110 l) (hne : P ≠ lb) (hlF : lb ∉ F) (hq : (l.up c 1).1 = 0) :
    Calls Tryz.prog 13 #[.pointer (some ⟨P, 0, none⟩)] w fun e w' => ∃ pb ob, e = .returned (.int .i64 0) ∧ Pg w' P D md lb c 2 (cntA A : Nat) 0 (some pb) (cntA A : Nat) (some ob) none 0 0 0 ∧ w'.heap[pb]? = some (.map #[] 0) ∧ w'.heap[ob]? = some (.map #[] 0) ∧ (w.heap.size ≤ pb ∧ w.heap.size ≤ ob ∧ pb ≠ ob) ∧ Tb w' lb 110 (l.up c 1).2 ∧ Fr [P, lb] w w' := by
  obtain ⟨m, hm⟩ : ∃ m, cntA A = m := ⟨_, rfl⟩
  rw [hm]
  have HMm := Hid.mk' hm
  clear hm
  have HO := Hid.mk' (outside_any (P := P) (st := 1) (by omega) hP.c5)
  have HNe : Hid (P < w.heap.size) := hP.lt
  have d3 := hP.c3
  have d4 := hP.c4
  have HD := Hid.mk' hD
  have HP := Hid.mk' hP
  have HT := Hid.mk' hT
  have HQ := Hid.mk' hq
  have HJ := Hid.mk' hj
  have HL := Hid.mk' hl
  clear hD hP hT hq hj hl
  go_enter Tryz.func13, Tryz.ntmps13
  go_wp2_with fail
  refine HO.out.mono ?_
  rintro e w0 ⟨rfl, hw⟩
  obtain rfl := hw.symm
  clear hw HO
  rw [show outE 1 = 0 from rfl]
  go_upto_region 4 with fail
  go_cut [4] from 12 to 20 (fun v4 wx => v4 = .int .i64 0 ∧ Tb wx lb 110 (l.up c 1).2 ∧ Fr [lb] w wx)
  case first =>
    have hS := Hid.mk' (show (fun w' : World => w'.cell? ⟨P, 3, none⟩ = some (.pointer (some ⟨lb, 0, none⟩)) ∧ w'.cell? ⟨P, 4, none⟩ = some (.int .i64 c)) w from ⟨d3, d4⟩)
    go_region_held3 (fun w' : World => w'.cell? ⟨P, 3, none⟩ = some (.pointer (some ⟨lb, 0, none⟩)) ∧ w'.cell? ⟨P, 4, none⟩ = some (.int .i64 c)) (first | exact hS.out | assumption | go_keep)
      (first | (go_at_call 36; refine (raise_any (HT.out.below (Below.refl _ _).drew) c 1).mono ?_; rintro e w1 ⟨rfl, hT1, hF1⟩; rw [HQ.out]; have HT1 := Hid.mk' hT1; have HF1 := Hid.mk' (show Fr [lb] w w1 from hF1); have HP1 := Hid.mk' (HP.out.fr HF1.out (by simpa using hne)); have hS := Hid.mk' (show (fun w' : World => w'.cell? ⟨P, 3, none⟩ = some (.pointer (some ⟨lb, 0, none⟩)) ∧ w'.cell? ⟨P, 4, none⟩ = some (.int .i64 c)) w1 from ⟨HP1.out.c3, HP1.out.c4⟩); clear hT1 hF1))
    all_goals
      go_wp2_with fail
      go_meet
      exact ⟨by first | rfl | rw [HQ.out], HT1.out, HF1.out⟩
  case rest =>
    obtain ⟨rfl, hT1, hF1⟩ := hcut
    have HT1 := Hid.mk' hT1
    have HF1 := Hid.mk' hF1
    have HD1 := Hid.mk' (HD.out.fr hF1 (fun k hk hm => by simp at hm; subst hm; exact hlF hk))
    have HP1 := Hid.mk' (HP.out.fr hF1 (by simpa using hne))
    have HSt := Hid.mk' (settle_l HD1.out HP1.out.ss HJ.out)
    clear hT1 hF1 HT HD HP d3 d4
    generalize wc = w1 at *
    go_wp2_with fail
    refine HSt.out.mono ?_
    rintro e w2 ⟨rfl, hb2⟩
    have HD2 := Hid.mk' (HD1.out.on hb2)
    have HP2 := Hid.mk' (HP1.out.on hb2)
    have HT2 := Hid.mk' (HT1.out.below hb2)
    have HF2 := Hid.mk' (HF1.out.trans (Fr.of_below (fs := []) hb2) (fun k hk => by cases hk))
    have HLk := Hid.mk' (slook_l HD2.out HP2.out.ss HL.out)
    rw [HMm.out] at HLk
    clear hb2 HD1 HP1 HT1 HF1 HSt
    go_wp2_with fail
    refine HLk.out.mono ?_
    rintro e w3 ⟨pb, rfl, hpb, hpl, hb3⟩
    have HP3 := Hid.mk' (HP2.out.on hb3)
    have HT3 := Hid.mk' (HT2.out.below hb3)
    have HF3 := Hid.mk' (HF2.out.trans (Fr.of_below (fs := []) hb3) (fun k hk => by cases hk))
    have HM3 := Hid.mk' hpb
    have HZ3 : Hid (w.heap.size ≤ pb ∧ pb < w3.heap.size) := ⟨Nat.le_trans HF2.out.2.1 hpl, (Array.getElem?_eq_some_iff.1 hpb).1⟩
    clear hpb hpl hb3 HD2 HP2 HT2 HF2 HLk
    obtain ⟨w4, hw4⟩ : ∃ w4, w4 = w3.alloc (.cells #[.int .i64 (m : Int), .int .i64 0, .map (some pb)] 91) := ⟨_, rfl⟩
    have hb4 : Below w3.heap.size w3 w4 := by rw [hw4]; exact (Below.refl _ _).alloc (Nat.le_refl _) _
    obtain ⟨vb, hvb⟩ : ∃ vb, vb = w3.heap.size := ⟨_, rfl⟩
    have k0 : w4.cell? ⟨vb, 0, none⟩ = some (.int .i64 (m : Int)) := by rw [hw4, hvb]; simp
    have k1 : w4.cell? ⟨vb, 1, none⟩ = some (.int .i64 0) := by rw [hw4, hvb]; simp
    have k2 : w4.cell? ⟨vb, 2, none⟩ = some (.map (some pb)) := by rw [hw4, hvb]; simp
    have HP4 := Hid.mk' (HP3.out.on hb4)
    have HT4 := Hid.mk' (HT3.out.below hb4)
    have HF4 := Hid.mk' (HF3.out.trans (Fr.of_below (fs := []) hb4) (fun k hk => by cases hk))
    have HM4 : Hid (w4.heap[pb]? = some (.map #[] 0)) := row_on hb4 HM3.out
    have HZ4 : Hid (w.heap.size ≤ pb ∧ pb < w4.heap.size) := ⟨HZ3.out.1, Nat.lt_of_lt_of_le HZ3.out.2 hb4.size⟩
    have HRf := Hid.mk' (refused_any HP4.out.c1)
    go_upto_region 9 with fail
    rw [← hw4, ← hvb]
    clear hw4 hvb hb4 HP3 HT3 HF3 HM3 HZ3
    go_wp2_with fail
    refine HRf.out.mono ?_
    rintro e w' ⟨rfl, hw⟩
    obtain rfl := hw.symm
    clear hw HRf
    go_wp2_with fail
    refine (begun_any _ _ _ w4).mono ?_
    rintro e w5 ⟨ob, rfl, hob, hol, hb5⟩
    have HP5 := Hid.mk' (HP4.out.on hb5)
    have HT5 := Hid.mk' (HT4.out.below hb5)
    have HF5 := Hid.mk' (HF4.out.trans (Fr.of_below (fs := []) hb5) (fun k hk => by cases hk))
    have HM5 : Hid (w5.heap[pb]? = some (.map #[] 0)) := row_on hb5 HM4.out
    have HO5 := Hid.mk' hob
    have HZ5 : Hid (w.heap.size ≤ pb ∧ w.heap.size ≤ ob ∧ pb ≠ ob) := ⟨HZ4.out.1, Nat.le_trans HF4.out.2.1 hol, by have := HZ4.out.2; omega⟩
    have HX := Hid.mk' (HP5.out.retx 2 (m : Int) 0 (some pb) (m : Int) (some ob) none 0 0 0)
    obtain ⟨x6, x7, x8, x9, x10, x11, x12⟩ := HP5.out.tx
    have x5 := HP5.out.c5
    have fz := HP5.out.frz
    clear hob hol hb5 HP4 HT4 HF4 HM4 HZ4 k0 k1 k2
    go_wp2
    go_ret
    refine ⟨pb, ob, rfl, HX.out.1, ?_, ?_, HZ5.out, HT5.out.fr HX.out.2 (by simpa using hne.symm), (HF5.out.mono (fun k hk => .inl (by simp at hk; simp [hk]))).trans HX.out.2 (fun k hk => .inl (by simp at hk; simp [hk]))⟩
    · rw [HX.out.2.2.2 pb (Array.getElem?_eq_some_iff.1 HM5.out).1 (by simp; have := HZ5.out; have := HNe.out; omega)]
      exact HM5.out
    · rw [HX.out.2.2.2 ob (Array.getElem?_eq_some_iff.1 HO5.out).1 (by simp; have := HZ5.out; have := HNe.out; omega)]
      exact HO5.out

set_option maxRecDepth 100000 in
set_option maxHeartbeats 1000000 in
theorem lopen_l {w : World} {D : Nat} {A : List AF} {F : List Nat} (h : Dl w D A F) (hj : M.has (nmA A) jourN = false) (md : Int) (hm : md = 1 ∨ md = 2) :
    Calls Tryz.prog 11 #[.pointer (some ⟨D, 0, none⟩), .int .i64 md] w fun e w' => ∃ P lb, e = .returned (.pointer (some ⟨P, 0, none⟩)) ∧ Pg w' P D md lb 0 1 0 0 none 0 none none 0 0 0 ∧ Tb w' lb 110 zeroL ∧ P ≠ lb ∧ w.heap.size ≤ P ∧ w.heap.size ≤ lb ∧ Below w.heap.size w w' := by
  have HZ := Hid.mk' h
  have HJ := Hid.mk' hj
  clear h hj
  go_enter Tryz.func11, Tryz.ntmps11
  go_wp2_with fail
  refine (lnew_any w).mono ?_
  rintro e w1 ⟨rfl, hT1, hb1⟩
  have HT1 := Hid.mk' hT1
  have HB1 := Hid.mk' hb1
  have hlt : w.heap.size < w1.heap.size := hT1.lt
  have HO := Hid.mk' (open_l (HZ.out.on hb1) HJ.out md 0 w.heap.size hm (by omega))
  obtain ⟨lb, hlb⟩ : ∃ lb, w.heap.size = lb := ⟨_, rfl⟩
  have HLb := Hid.mk' hlb
  rw [hlb] at HT1 HO hlt
  rw [hlb]
  clear hT1 hb1 hlb hm
  go_wp2_with fail
  refine HO.out.mono ?_
  rintro e w2 ⟨rfl, hP2, hb2⟩
  have HP2 := Hid.mk' hP2
  have HB2 := Hid.mk' hb2
  clear hP2 hb2 HO
  go_wp2_with fail
  refine (num_any 0 w2).mono ?_
  rintro e w3 ⟨rfl, hw⟩
  obtain rfl := hw.symm
  clear hw
  go_wp2
  go_ret
  have h1 := HB1.out.size
  have h3 := HLb.out
  exact ⟨_, lb, rfl, HP2.out, HT1.out.below HB2.out, by omega, by omega, by omega, HB1.out.trans (HB2.out.mono HB1.out.size)⟩

end Go.Proofs.YtchbheoapldkaaaGreat
