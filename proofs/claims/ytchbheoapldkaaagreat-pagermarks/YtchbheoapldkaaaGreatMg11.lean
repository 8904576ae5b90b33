/-
  The pager's block; small functions; what is seen where there is no journal and no log: settle, look; inside, outside, refused, end, reserve, alone.
  Numbers as bytes; the contracts of putNumber, sumOf and encode of a batch without pages.
  The pager's calls: begun, end, reserve, alone, Open, Begin, Rollback, Count.
  The contracts of sumOf, and of encode of a batch without pages.
-/
import Derived.Test.YtchbheoapldkaaaGreatPz
import Derived.Test.YtchbheoapldkaaaGreatMg10
import Derived.Test.YtchbheoapldkaaaGreatMg9
namespace Go.Proofs.YtchbheoapldkaaaGreat
open Go.RowKit Go.Maps

def baseN : ByteArray := ⟨#[98, 97, 115, 101]⟩
def jourN : ByteArray := ⟨#[98, 97, 115, 101, 45, 106, 111, 117, 114, 110, 97, 108]⟩
def logN : ByteArray := ⟨#[98, 97, 115, 101, 45, 108, 111, 103]⟩
theorem row_on {w w' : World} {g : Nat} {o : Obj} (hb : Below w.heap.size w w') (h : w.heap[g]? = some o) : w'.heap[g]? = some o := (hb.block g (Array.getElem?_eq_some_iff.1 h).1).trans h
theorem nam_base : M.nam baseN = true := by decide
theorem nam_jour : M.nam jourN = true := by decide
theorem nam_log : M.nam logN = true := by decide
theorem Dz.len {w : World} {D n : Nat} {A : List AF} {F : List Nat} (h : Dz w D n A F) (t : ByteArray) : (seenA A t).length ≤ 4194304 := by
  obtain ⟨mb, dv, L, s, hD, hs, hr, rfl, rfl⟩ := h
  unfold seenA
  rw [nmA_fabs]
  split
  · rename_i hh
    have hi := (has_pos hr hh).1
    rw [names_length] at hi
    rw [fabs_getD]
    exact (hD.2.2.1 _ (getD_mem L hi)).2.2
  · simp
theorem Fr.set {fs : List Nat} {w w' : World} (h : Fr fs w w') {a : Addr} (ha : a.block ∈ fs) (u : Value) : Fr fs w (w'.setCell a u) := h.trans (Fr.of_set w' a u) (fun k hk => .inl (by simp at hk; rw [hk]; exact ha))

/-- A pager at block P. -/
def Pg (w : World) (P D : Nat) (md : Int) (lb : Nat) (c st vc ve : Int) (vp : Option Nat) (cnt : Int) (ow : Option Nat) (ma : Option Addr) (mn mc : Nat) (tl : Int) : Prop :=
  w.heap[P]? = some (.cells #[.pointer (some ⟨D, 0, none⟩), .int .i64 0, .int .i64 md, .pointer (some ⟨lb, 0, none⟩), .int .i64 c, .int .i64 st, .int .i64 vc, .int .i64 ve, .map vp, .int .i64 cnt, .map ow, .slice ma mn mc, .int .i64 tl] 97 (0, 0))
theorem Pg.ss {w : World} {P D : Nat} {md : Int} {lb : Nat} {c st vc ve : Int} {vp : Option Nat} {cnt : Int} {ow : Option Nat} {ma : Option Addr} {mn mc : Nat} {tl : Int} (h : Pg w P D md lb c st vc ve vp cnt ow ma mn mc tl) : Ss w P D := ⟨_, h, rfl, rfl⟩
theorem Pg.lt {w : World} {P D : Nat} {md : Int} {lb : Nat} {c st vc ve : Int} {vp : Option Nat} {cnt : Int} {ow : Option Nat} {ma : Option Addr} {mn mc : Nat} {tl : Int} (h : Pg w P D md lb c st vc ve vp cnt ow ma mn mc tl) : P < w.heap.size := (Array.getElem?_eq_some_iff.1 h).1
theorem Pg.fr {w w' : World} {P D : Nat} {md : Int} {lb : Nat} {c st vc ve : Int} {vp : Option Nat} {cnt : Int} {ow : Option Nat} {ma : Option Addr} {mn mc : Nat} {tl : Int} (h : Pg w P D md lb c st vc ve vp cnt ow ma mn mc tl) {fs : List Nat} (hF : Fr fs w w') (hn : P ∉ fs) : Pg w' P D md lb c st vc ve vp cnt ow ma mn mc tl := (hF.2.2 P h.lt hn).trans h
theorem Pg.on {w w' : World} {P D : Nat} {md : Int} {lb : Nat} {c st vc ve : Int} {vp : Option Nat} {cnt : Int} {ow : Option Nat} {ma : Option Addr} {mn mc : Nat} {tl : Int} (h : Pg w P D md lb c st vc ve vp cnt ow ma mn mc tl) (hb : Below w.heap.size w w') : Pg w' P D md lb c st vc ve vp cnt ow ma mn mc tl := h.fr (Fr.of_below (fs := []) hb) (by simp)
theorem Pg.frz {w : World} {P D : Nat} {md : Int} {lb : Nat} {c st vc ve : Int} {vp : Option Nat} {cnt : Int} {ow : Option Nat} {ma : Option Addr} {mn mc : Nat} {tl : Int} (h : Pg w P D md lb c st vc ve vp cnt ow ma mn mc tl) (i : Nat) : w.frozen? ⟨P, i, none⟩ = false := by
  have h1 : w.heap[P]? = some _ := h
  simp [World.frozen?, h1]
theorem Pg.c1 {w : World} {P D : Nat} {md : Int} {lb : Nat} {c st vc ve : Int} {vp : Option Nat} {cnt : Int} {ow : Option Nat} {ma : Option Addr} {mn mc : Nat} {tl : Int} (h : Pg w P D md lb c st vc ve vp cnt ow ma mn mc tl) : w.cell? ⟨P, 1, none⟩ = some (.int .i64 0) := (cell_of_row w P 1 _ _ (0, 0) h).trans rfl
theorem Pg.c2 {w : World} {P D : Nat} {md : Int} {lb : Nat} {c st vc ve : Int} {vp : Option Nat} {cnt : Int} {ow : Option Nat} {ma : Option Addr} {mn mc : Nat} {tl : Int} (h : Pg w P D md lb c st vc ve vp cnt ow ma mn mc tl) : w.cell? ⟨P, 2, none⟩ = some (.int .i64 md) := (cell_of_row w P 2 _ _ (0, 0) h).trans rfl
theorem Pg.c3 {w : World} {P D : Nat} {md : Int} {lb : Nat} {c st vc ve : Int} {vp : Option Nat} {cnt : Int} {ow : Option Nat} {ma : Option Addr} {mn mc : Nat} {tl : Int} (h : Pg w P D md lb c st vc ve vp cnt ow ma mn mc tl) : w.cell? ⟨P, 3, none⟩ = some (.pointer (some ⟨lb, 0, none⟩)) := (cell_of_row w P 3 _ _ (0, 0) h).trans rfl
theorem Pg.c4 {w : World} {P D : Nat} {md : Int} {lb : Nat} {c st vc ve : Int} {vp : Option Nat} {cnt : Int} {ow : Option Nat} {ma : Option Addr} {mn mc : Nat} {tl : Int} (h : Pg w P D md lb c st vc ve vp cnt ow ma mn mc tl) : w.cell? ⟨P, 4, none⟩ = some (.int .i64 c) := (cell_of_row w P 4 _ _ (0, 0) h).trans rfl
theorem Pg.c5 {w : World} {P D : Nat} {md : Int} {lb : Nat} {c st vc ve : Int} {vp : Option Nat} {cnt : Int} {ow : Option Nat} {ma : Option Addr} {mn mc : Nat} {tl : Int} (h : Pg w P D md lb c st vc ve vp cnt ow ma mn mc tl) : w.cell? ⟨P, 5, none⟩ = some (.int .i64 st) := (cell_of_row w P 5 _ _ (0, 0) h).trans rfl
theorem Pg.tx {w : World} {P D : Nat} {md : Int} {lb : Nat} {c st vc ve : Int} {vp : Option Nat} {cnt : Int} {ow : Option Nat} {ma : Option Addr} {mn mc : Nat} {tl : Int} (h : Pg w P D md lb c st vc ve vp cnt ow ma mn mc tl) : w.cell? ⟨P, 6, none⟩ = some (.int .i64 vc) ∧ w.cell? ⟨P, 7, none⟩ = some (.int .i64 ve) ∧ w.cell? ⟨P, 8, none⟩ = some (.map vp) ∧ w.cell? ⟨P, 9, none⟩ = some (.int .i64 cnt) ∧ w.cell? ⟨P, 10, none⟩ = some (.map ow) ∧ w.cell? ⟨P, 11, none⟩ = some (.slice ma mn mc) ∧ w.cell? ⟨P, 12, none⟩ = some (.int .i64 tl) :=
  ⟨(cell_of_row w P 6 _ _ (0, 0) h).trans rfl, (cell_of_row w P 7 _ _ (0, 0) h).trans rfl, (cell_of_row w P 8 _ _ (0, 0) h).trans rfl, (cell_of_row w P 9 _ _ (0, 0) h).trans rfl, (cell_of_row w P 10 _ _ (0, 0) h).trans rfl, (cell_of_row w P 11 _ _ (0, 0) h).trans rfl, (cell_of_row w P 12 _ _ (0, 0) h).trans rfl⟩

def isPg (n : Int) : Bool := decide (0 ≤ n ∧ n < 4096)
set_option maxRecDepth 100000 in
set_option maxHeartbeats 400000 in
theorem ispage_any (n : Int) (w : World) : Calls Tryz.prog 42 #[.int .i64 n] w fun e w' => e = .returned (.bool (isPg n)) ∧ w' = w := by
  by_cases h1 : 0 ≤ n
  · by_cases h2 : n < 4096
    · have HR : Hid (isPg n = true) := by show _ = _; unfold isPg; simp; omega
      go_enter Tryz.func42, Tryz.ntmps42
      go_wp2
      go_ret
      exact ⟨ret_bool HR.out.symm, rfl⟩
    · have HR : Hid (isPg n = false) := by show _ = _; unfold isPg; simp; omega
      go_enter Tryz.func42, Tryz.ntmps42
      go_wp2
      go_ret
      exact ⟨ret_bool HR.out.symm, rfl⟩
  · have HR : Hid (isPg n = false) := by show _ = _; unfold isPg; simp; omega
    go_enter Tryz.func42, Tryz.ntmps42
    go_wp2
    go_ret
    exact ⟨ret_bool HR.out.symm, rfl⟩

/-- The errors of calls that need a transaction, and of those that none may be open for. -/
def insE (st : Int) : Int := if st = 0 then 9 else if st = 1 then 11 else 0
def outE (st : Int) : Int := if st = 0 then 9 else if st = 1 then 0 else 11
set_option maxRecDepth 100000 in
set_option maxHeartbeats 400000 in
theorem inside_any {w : World} {P : Nat} {st : Int} (hst : st = 0 ∨ st = 1 ∨ st = 2 ∨ st = 3) (c5 : w.cell? ⟨P, 5, none⟩ = some (.int .i64 st)) : Calls Tryz.prog 41 #[.pointer (some ⟨P, 0, none⟩)] w fun e w' => e = .returned (.int .i64 (insE st)) ∧ w' = w := by
  rcases hst with rfl | rfl | rfl | rfl
  all_goals
    go_enter Tryz.func41, Tryz.ntmps41
    go_wp2
    go_ret
    exact ⟨rfl, rfl⟩
set_option maxRecDepth 100000 in
set_option maxHeartbeats 400000 in
theorem outside_any {w : World} {P : Nat} {st : Int} (hst : st = 0 ∨ st = 1 ∨ st = 2 ∨ st = 3) (c5 : w.cell? ⟨P, 5, none⟩ = some (.int .i64 st)) : Calls Tryz.prog 35 #[.pointer (some ⟨P, 0, none⟩)] w fun e w' => e = .returned (.int .i64 (outE st)) ∧ w' = w := by
  rcases hst with rfl | rfl | rfl | rfl
  all_goals
    go_enter Tryz.func35, Tryz.ntmps35
    go_wp2
    go_ret
    exact ⟨rfl, rfl⟩

set_option maxRecDepth 100000 in
set_option maxHeartbeats 400000 in
theorem refused_any {w : World} {P : Nat} (c1 : w.cell? ⟨P, 1, none⟩ = some (.int .i64 0)) : Calls Tryz.prog 39 #[.pointer (some ⟨P, 0, none⟩)] w fun e w' => e = .returned (.int .i64 0) ∧ w' = w := by
  go_enter Tryz.func39, Tryz.ntmps39
  go_wp2
  go_ret
  exact ⟨rfl, rfl⟩

set_option maxRecDepth 100000 in
set_option maxHeartbeats 400000 in
theorem settle_none {w : World} {P D n : Nat} {A : List AF} {F : List Nat} (h : Dz w D n A F) (hS : Ss w P D) (hj : M.has (nmA A) jourN = false) : Calls Tryz.prog 37 #[.pointer (some ⟨P, 0, none⟩)] w fun e w' => e = .returned (.tuple #[]) ∧ Below w.heap.size w w' := by
  have HT := Hid.mk' (there_any h hS jourN nam_jour)
  rw [hj] at HT
  clear h hS hj
  go_enter Tryz.func37, Tryz.ntmps37
  go_wp2_with fail
  refine HT.out.mono ?_
  rintro e w1 ⟨rfl, hb1⟩
  have HB := Hid.mk' hb1
  clear hb1
  go_wp2
  refine bodyPost_ret (results_none rfl _ _ _) rfl ?_
  exact ⟨rfl, HB.out⟩

set_option maxRecDepth 100000 in
set_option maxHeartbeats 400000 in
theorem fold_none {w : World} {P D n : Nat} {A : List AF} {F : List Nat} (h : Dz w D n A F) (hS : Ss w P D) (hj : M.has (nmA A) logN = false) : Calls Tryz.prog 52 #[.pointer (some ⟨P, 0, none⟩)] w fun e w' => e = .returned (.tuple #[]) ∧ Below w.heap.size w w' := by
  have HT := Hid.mk' (there_any h hS logN nam_log)
  rw [hj] at HT
  clear h hS hj
  go_enter Tryz.func52, Tryz.ntmps52
  go_wp2_with fail
  refine HT.out.mono ?_
  rintro e w1 ⟨rfl, hb1⟩
  have HB := Hid.mk' hb1
  clear hb1
  go_wp2
  refine bodyPost_ret (results_none rfl _ _ _) rfl ?_
  exact ⟨rfl, HB.out⟩

set_option maxRecDepth 100000 in
set_option maxHeartbeats 400000 in
theorem pagesof_any (n : Nat) (hn : n ≤ 4194304) (w : World) : Calls Tryz.prog 66 #[.int .i64 n] w fun e w' => e = .returned (.int .i64 (((n + 511) / 512 : Nat) : Int)) ∧ w' = w := by
  go_enter Tryz.func66, Tryz.ntmps66
  go_wp2
  go_ret
  exact ⟨ret_int (by omega), rfl⟩

set_option maxRecDepth 100000 in
set_option maxHeartbeats 400000 in
theorem decode_few (a : Option Addr) (n c : Nat) (hn : n < 64) (w : World) : Calls Tryz.prog 60 #[.slice a n c] w fun e w' => e = .returned (.agg #[.int .i64 0, .int .i64 0, .int .i64 0, .slice none 0 0]) ∧ Below w.heap.size w w' := by
  have h1 : (n : Int) < 64 := by omega
  go_enter Tryz.func60, Tryz.ntmps60
  go_wp2
  refine bodyPost_ret ?_ rfl ⟨rfl, ?_⟩
  · simp [results, Tryz.results60, go_sem]
  · exact (Below.refl _ _).alloc (Nat.le_refl _) _

/-- What is told of a disk without a log: how many pages base has, and no places. -/
def cntA (A : List AF) : Nat := min (((seenA A baseN).length + 511) / 512) 4096
set_option maxRecDepth 100000 in
set_option maxHeartbeats 1000000 in
theorem slook_none {w : World} {P D n : Nat} {A : List AF} {F : List Nat} (h : Dz w D n A F) (hS : Ss w P D) (hl : seenA A logN = []) : Calls Tryz.prog 38 #[.pointer (some ⟨P, 0, none⟩)] w fun e w' => ∃ pb, e = .returned (.agg #[.int .i64 (cntA A : Nat), .int .i64 0, .map (some pb)]) ∧ w'.heap[pb]? = some (.map #[] 0) ∧ w.heap.size ≤ pb ∧ Below w.heap.size w w' := by
  have HSz := Hid.mk' (fun (wx : World) (hb : Below w.heap.size w wx) => ssize_any (h.on hb) (hS.on hb) baseN nam_base)
  have hlen := h.len baseN
  have HRd := Hid.mk' (fun (wx : World) (hb : Below w.heap.size w wx) => sread_any (h.on hb) (hS.on hb) logN nam_log 0 4194304 (by omega) (by omega) [] (by rw [hl]; rfl))
  have hB : (⟨#[98, 97, 115, 101]⟩ : ByteArray) = baseN := rfl
  have hG : (⟨#[98, 97, 115, 101, 45, 108, 111, 103]⟩ : ByteArray) = logN := rfl
  have hmm := @run_makeMap Tryz.prog
  obtain ⟨bl, hbl⟩ : ∃ n, (seenA A baseN).length = n := ⟨_, rfl⟩
  rw [hbl] at HSz hlen
  obtain ⟨q, hq⟩ : ∃ q, (bl + 511) / 512 = q := ⟨_, rfl⟩
  have hmin : (if (4096 : Int) < (q : Int) then (4096 : Int) else (q : Int)) = (cntA A : Int) := by
    unfold cntA
    rw [hbl, hq]
    split <;> omega
  generalize cntA A = m at *
  have HPo := Hid.mk' (fun (wx : World) => pagesof_any bl hlen wx)
  rw [hq] at HPo
  clear h hS hl hbl hq
  go_enter Tryz.func38, Tryz.ntmps38
  go_wp2_with fail
  go_step3
  go_wp2_with fail
  refine (HSz.out _ ((Below.refl _ _).alloc (Nat.le_refl _) _)).mono ?_
  rintro e w1 ⟨rfl, hb1⟩
  have HB1 : Hid (Below w.heap.size w w1) := ((Below.refl _ _).alloc (Nat.le_refl _) _).trans (hb1.mono (by simp))
  have HZ1 : Hid (w1.heap[w.heap.size]? = some (.cells #[.int .i64 0, .int .i64 0, .map none] 91 (0, 0))) := row_on hb1 (heap_alloc_new w _)
  have hz1 : w.heap.size < w1.heap.size := Nat.lt_of_lt_of_le (by simp) hb1.size
  clear hb1
  go_wp2_with fail
  refine (HPo.out w1).mono ?_
  rintro e w2 ⟨rfl, hw⟩
  obtain rfl := hw.symm
  clear hw
  obtain ⟨w3, hw3⟩ : ∃ w3, w3 = (w1.alloc (.map #[] 0)).alloc (.cells #[.int .i64 (m : Int), .int .i64 0, .map (some w1.heap.size)] 91) := ⟨_, rfl⟩
  have HB3 : Hid (Below w.heap.size w w3) := by rw [hw3]; exact (HB1.out.alloc HB1.out.size _).alloc (by simpa using Nat.le_succ_of_le HB1.out.size) _
  have HM3 : Hid (w3.heap[w1.heap.size]? = some (.map #[] 0)) := by
    show _ = _
    rw [hw3, Below.heap_alloc _ _ _ (by simp)]
    exact heap_alloc_new w1 _
  have k0 : w3.cell? ⟨w1.heap.size + 1, 0, none⟩ = some (.int .i64 (m : Int)) := by
    rw [hw3, show w1.heap.size + 1 = (w1.alloc (.map #[] 0)).heap.size by simp, World.cell?_alloc_at _ _ _ _ rfl]; rfl
  have k1 : w3.cell? ⟨w1.heap.size + 1, 1, none⟩ = some (.int .i64 0) := by
    rw [hw3, show w1.heap.size + 1 = (w1.alloc (.map #[] 0)).heap.size by simp, World.cell?_alloc_at _ _ _ _ rfl]; rfl
  have k2 : w3.cell? ⟨w1.heap.size + 1, 2, none⟩ = some (.map (some w1.heap.size)) := by
    rw [hw3, show w1.heap.size + 1 = (w1.alloc (.map #[] 0)).heap.size by simp, World.cell?_alloc_at _ _ _ _ rfl]; rfl
  have HZ3 : Hid (w3.heap[w.heap.size]? = some (.cells #[.int .i64 0, .int .i64 0, .map none] 91 (0, 0))) := by
    rw [hw3]
    show _ = _
    rw [Below.heap_alloc _ _ _ (by simp; omega), Below.heap_alloc _ _ _ hz1]
    exact HZ1.out
  go_upto_region 2 with fail
  rw [← hw3]
  clear hw3
  generalize w1.heap.size + 1 = vb at *
  have hpb : w.heap.size ≤ w1.heap.size := HB1.out.size
  generalize w1.heap.size = pb at *
  go_wp2_with fail
  refine (HRd.out w3 HB3.out).mono ?_
  rintro e w4 ⟨ra, rc, rfl, hR4, _, hb4⟩
  replace k0 := cell_on hb4 k0
  replace k1 := cell_on hb4 k1
  replace k2 := cell_on hb4 k2
  have HB4 : Hid (Below w.heap.size w w4) := HB3.out.trans (hb4.mono HB3.out.size)
  have HM4 : Hid (w4.heap[pb]? = some (.map #[] 0)) := row_on hb4 HM3.out
  have HZ4 := Hid.mk' (row_on hb4 HZ3.out)
  clear hb4 HM3 HB3 hR4 HZ3 HZ1
  go_wp2_with fail
  go_step3
  go_wp2_with fail
  refine (decode_few _ _ _ (by simp) w4).mono ?_
  rintro e w5 ⟨rfl, hb5⟩
  replace k0 := cell_on hb5 k0
  replace k1 := cell_on hb5 k1
  replace k2 := cell_on hb5 k2
  have HB5 : Hid (Below w.heap.size w w5) := HB4.out.trans (hb5.mono HB4.out.size)
  have HM5 : Hid (w5.heap[pb]? = some (.map #[] 0)) := row_on hb5 HM4.out
  have HZ5 := Hid.mk' (row_on hb5 HZ4.out)
  clear hb5 HM4 HB4 HZ4
  obtain ⟨w6, hw6⟩ : ∃ w6, w6 = w5.alloc (.cells #[.int .i64 0, .int .i64 0, .int .i64 0, .slice none 0 0] 119) := ⟨_, rfl⟩
  have hb6 : Below w5.heap.size w5 w6 := by rw [hw6]; exact (Below.refl _ _).alloc (Nat.le_refl _) _
  have j0 : w6.cell? ⟨w5.heap.size, 0, none⟩ = some (.int .i64 0) := by rw [hw6]; simp
  go_upto_region 4 with fail
  rw [← hw6]
  clear hw6
  replace k0 := cell_on hb6 k0
  replace k1 := cell_on hb6 k1
  replace k2 := cell_on hb6 k2
  have HB6 : Hid (Below w.heap.size w w6) := HB5.out.trans (hb6.mono HB5.out.size)
  have HM6 : Hid (w6.heap[pb]? = some (.map #[] 0)) := row_on hb6 HM5.out
  have HZ6 := Hid.mk' (row_on hb6 HZ5.out)
  have z0 : w6.cell? ⟨w.heap.size, 0, none⟩ = some (.int .i64 0) := (cell_of_row _ _ 0 _ _ (0, 0) HZ6.out).trans rfl
  have z1 : w6.cell? ⟨w.heap.size, 1, none⟩ = some (.int .i64 0) := (cell_of_row _ _ 1 _ _ (0, 0) HZ6.out).trans rfl
  have z2 : w6.cell? ⟨w.heap.size, 2, none⟩ = some (.map none) := (cell_of_row _ _ 2 _ _ (0, 0) HZ6.out).trans rfl
  have f0 : w6.frozen? ⟨w.heap.size, 0, none⟩ = false := by have h1 := HZ6.out; simp [World.frozen?, h1]
  have f1 : w6.frozen? ⟨w.heap.size, 1, none⟩ = false := by have h1 := HZ6.out; simp [World.frozen?, h1]
  have f2 : w6.frozen? ⟨w.heap.size, 2, none⟩ = false := by have h1 := HZ6.out; simp [World.frozen?, h1]
  clear hb6 HM5 HB5 HZ5
  generalize w5.heap.size = bb at *
  have hpz : pb ≠ w.heap.size := fun e => by
    have h1 := HM6.out
    rw [e, HZ6.out] at h1
    cases h1
  go_wp2_with fail
  rw [Exit.noGoto_ret]
  refine bodyPost_ret ?_ rfl ⟨pb, rfl, ?_, hpb, ?_⟩
  · simp [results, Tryz.results38, go_sem, z0, z1, z2]
  · rw [Below.heap_setCell _ _ _ _ hpz, Below.heap_setCell _ _ _ _ hpz, Below.heap_setCell _ _ _ _ hpz]
    exact HM6.out
  · exact ((HB6.out.setCell (p := ⟨w.heap.size, 0, none⟩) (Nat.le_refl _) _).setCell (p := ⟨w.heap.size, 1, none⟩) (Nat.le_refl _) _).setCell (p := ⟨w.heap.size, 2, none⟩) (Nat.le_refl _) _
end Go.Proofs.YtchbheoapldkaaaGreat
namespace Go.Proofs.YtchbheoapldkaaaGreat
open Go.RowKit Go.Maps

/-- k bytes of a number, the highest first. -/
def be (k N : Nat) : List Nat := (List.range k).map fun i => N / 256 ^ (k - 1 - i) % 256
theorem be_length (k N : Nat) : (be k N).length = k := by simp [be]
theorem be_lt (k N : Nat) : ∀ x ∈ be k N, x < 256 := by
  intro x hx
  obtain ⟨i, _, rfl⟩ := List.mem_map.1 hx
  exact Nat.mod_lt _ (by omega)
/-- A number laid into bytes from o on, its last c bytes. -/
def pnL (l : List Nat) (o k N c : Nat) : List Nat := l.take (o + (k - c)) ++ ((be k N).drop (k - c) ++ l.drop (o + k))
theorem pnL_zero (l : List Nat) (o k N : Nat) : pnL l o k N 0 = l := by
  unfold pnL
  rw [Nat.sub_zero, List.drop_of_length_le (by rw [be_length]; exact Nat.le_refl _), List.nil_append, List.take_append_drop]
theorem pnL_length (l : List Nat) {o k : Nat} (N c : Nat) (h : o + k ≤ l.length) (hc : c ≤ k) : (pnL l o k N c).length = l.length := by
  unfold pnL
  simp [be_length]
  omega
theorem pnL_succ (l : List Nat) {o k : Nat} (N c : Nat) (h : o + k ≤ l.length) (hc : c < k) : (pnL l o k N c).set (o + (k - 1 - c)) (N / 256 ^ c % 256) = pnL l o k N (c + 1) := by
  unfold pnL
  have e1 : k - c = (k - 1 - c) + 1 := by omega
  have e2 : k - (c + 1) = k - 1 - c := by omega
  rw [e2, e1, ← Nat.add_assoc, List.take_succ_eq_append_getElem (by omega), List.append_assoc, List.set_append_right _ _ (by simp; omega)]
  have e3 : (be k N).drop (k - 1 - c) = (N / 256 ^ c % 256) :: (be k N).drop (k - 1 - c + 1) := by
    rw [List.drop_eq_getElem_cons (by rw [be_length]; omega)]
    congr 1
    simp only [be, List.getElem_map, List.getElem_range]
    rw [show k - 1 - (k - 1 - c) = c by omega]
  rw [e3]
  have e4 : o + (k - 1 - c) - (l.take (o + (k - 1 - c))).length = 0 := by simp; omega
  rw [e4]
  rfl

set_option maxRecDepth 100000 in
set_option maxHeartbeats 1000000 in
theorem putnum_any {w : World} (g o k cap N : Nat) (l : List Nat) (t : TypeId) (hg : w.heap[g]? = some (.cells (l.map B8).toArray t (0, 0))) (ho : o + k ≤ l.length) (hk : k ≤ 1000) (hN : N ≤ 9223372036854775807) :
    Calls Tryz.prog 113 #[.slice (some ⟨g, o, none⟩) k cap, .int .i64 (N : Int)] w fun e w' => e = .returned (.tuple #[]) ∧ w'.heap[g]? = some (.cells ((pnL l o k N k).map B8).toArray t (0, 0)) ∧ Fr [g] w w' := by
  have H0 : Hid (w.heap[g]? = some (.cells ((pnL l o k N 0).map B8).toArray t (0, 0))) := by rw [pnL_zero l o k N]; exact hg
  clear hg
  go_enter Tryz.func113, Tryz.ntmps113
  go_wp2
  go_loopw [1, 4] (fun n i wr => ∃ c : Nat, c ≤ k ∧ n = .int .i64 ((N / 256 ^ c : Nat) : Int) ∧ i = .int .i64 ((k : Int) - 1 - (c : Int)) ∧ wr.heap[g]? = some (.cells ((pnL l o k N c).map B8).toArray t (0, 0)) ∧ Fr [g] w wr) (fun _ i _ => (intOf i + 1).toNat)
  case atStart => exact ⟨0, by omega, by simp, by simp, H0.out, Fr.refl _ _⟩
  case round =>
    clear H0
    obtain ⟨c, hc, rfl, rfl, hg, hF⟩ := hrel
    have HG := Hid.mk' hg
    have HF := Hid.mk' hF
    obtain ⟨x, hx⟩ : ∃ x, N / 256 ^ c = x := ⟨_, rfl⟩
    have hxN : x ≤ 9223372036854775807 := by rw [← hx]; exact Nat.le_trans (Nat.div_le_self _ _) hN
    have HX := Hid.mk' hx
    rw [hx]
    by_cases hlt : c < k
    · obtain ⟨j, hj⟩ : ∃ j : Nat, (k : Int) - 1 - (c : Int) = (j : Int) := ⟨k - 1 - c, by omega⟩
      have hjk : j = k - 1 - c := by omega
      have hlen := pnL_length l N c ho hc
      have c0 : wr.cell? ⟨g, o + j, none⟩ = some (B8 ((pnL l o k N c).getD (o + j) 0)) := by
        rw [cell_of_row wr g (o + j) _ t (0, 0) hg]
        have hl2 : o + j < (pnL l o k N c).length := by omega
        simp [List.getElem?_eq_getElem hl2, List.getD_eq_getElem?_getD]
      rw [show B8 ((pnL l o k N c).getD (o + j) 0) = .int .u8 (((pnL l o k N c).getD (o + j) 0 : Nat) : Int) from rfl] at c0
      generalize (pnL l o k N c).getD (o + j) 0 = old at *
      have f0 : wr.frozen? ⟨g, o + j, none⟩ = false := by simp [World.frozen?, hg]
      have hw8 : IntKind.u8.wrap (x : Int) = ((x % 256 : Nat) : Int) := by
        simp only [IntKind.wrap, IntKind.bits, IntKind.signed]
        simp
      have HS : Hid ((wr.setCell ⟨g, o + j, none⟩ (.int .u8 ((x % 256 : Nat) : Int))).heap[g]? = some (.cells ((pnL l o k N (c + 1)).map B8).toArray t (0, 0))) := by
        show _ = _
        have h1 := heap_setCell_same wr g (o + j) _ t (.int .u8 ((x % 256 : Nat) : Int)) HG.out
        rw [h1, List.setIfInBounds_toArray, ← pnL_succ l N c ho hlt, List.map_set, HX.out, hjk]
        rfl
      have HF2 : Hid (Fr [g] w (wr.setCell ⟨g, o + j, none⟩ (.int .u8 ((x % 256 : Nat) : Int)))) := HF.out.set (by simp) _
      have j0 : (0 : Int) ≤ (j : Int) := by omega
      have jk : (j : Int) < (k : Int) := by omega
      rw [hj]
      have HJ := Hid.mk' hj
      clear hg hF hx hj hlen hjk
      have he : ((x % 256 : Nat) : Int) = (x : Int) % 256 := by omega
      rw [he] at HS HF2
      go_wp2
      go_roundw
      case rel =>
        refine ⟨c + 1, by omega, ?_, ?_, HS.out, HF2.out⟩
        · rw [Nat.pow_succ, ← Nat.div_div_eq_div_mul, HX.out]
          rfl
        · have := HJ.out
          congr 1
          omega
      case measure => simp [intOf]
    · obtain rfl : c = k := by omega
      have hneg : ¬ ((c : Int) - 1 - (c : Int) ≥ 0) := by omega
      clear hg hF
      go_wp2
      go_end0
      exact ⟨rfl, HG.out, HF.out⟩

/-- Bytes copied into a row of bytes. -/
theorem cprow (W : World) (g o n cap : Nat) (t : TypeId) (L l : List Nat) (hg : W.heap[g]? = some (.cells (L.map B8).toArray t (0, 0))) (v : Value) (hv : Sees W v l) (hln : l.length ≤ n) (ho : o + l.length ≤ L.length) :
    ∃ w', (Builtin.copy_ #[37, 37] 3 #[.slice (some ⟨g, o, none⟩) n cap, v]).run Tryz.prog W = .ok (goInt l.length) w' ∧ w'.heap[g]? = some (.cells ((L.take o ++ (l ++ L.drop (o + l.length))).map B8).toArray t (0, 0)) ∧ Fr [g] W w' := by
  obtain ⟨⟨a, ca, rfl, ha⟩, hma⟩ := hv
  by_cases h0 : 1 ≤ l.length
  · obtain ⟨b, ob, rfl, hc⟩ := ha h0
    have hr := run_copy_row (P := Tryz.prog) W 37 37 3 5 g o n cap ⟨b, ob, none⟩ l.length ca (L.map B8).toArray t (l.map B8) Tryz.underlying37 size_u8 hg (by rw [List.length_map]; exact (Nat.min_eq_left hln).symm) (fun j u hu => by
      have hlt : j < l.length := by simpa using (List.getElem?_eq_some_iff.1 hu).1
      rw [Addr.add_lit, hc j hlt]
      simp [List.getElem?_eq_getElem hlt, B8] at hu
      simp [List.getD_eq_getElem?_getD, hlt, ← hu]) (by simp; omega) (one_B8 l)
    rw [List.length_map] at hr
    refine ⟨_, hr, ?_, Fr.of_setRow W g _⟩
    rw [setRow_heap W g _ _ t _ hg]
    simp [List.map_append, List.map_take, List.map_drop]
  · have hn : l = [] := List.eq_nil_of_length_eq_zero (by omega)
    subst hn
    refine ⟨W, run_copy_none (P := Tryz.prog) _ 37 37 3 5 _ _ n cap 0 ca Tryz.underlying37 size_u8 (Nat.zero_min _), ?_, Fr.refl _ _⟩
    rw [hg]
    simp
end Go.Proofs.YtchbheoapldkaaaGreat
namespace Go.Proofs.YtchbheoapldkaaaGreat
open Go.RowKit Go.Maps

theorem map_new (w : World) (k : Nat) (hk : w.heap.size = k) : (w.alloc (.map #[] 0)).heap[k]? = some (.map #[] 0) := by subst hk; exact heap_alloc_new w _
theorem Pg.retx {w : World} {P D : Nat} {md : Int} {lb : Nat} {c st vc ve : Int} {vp : Option Nat} {cnt : Int} {ow : Option Nat} {ma : Option Addr} {mn mc : Nat} {tl : Int} (h : Pg w P D md lb c st vc ve vp cnt ow ma mn mc tl) (st' vc' ve' : Int) (vp' : Option Nat) (cnt' : Int) (ow' : Option Nat) (ma' : Option Addr) (mn' mc' : Nat) (tl' : Int) :
    Pg ((((((((w.setCell ⟨P, 6, none⟩ (.int .i64 vc')).setCell ⟨P, 7, none⟩ (.int .i64 ve')).setCell ⟨P, 8, none⟩ (.map vp')).setCell ⟨P, 9, none⟩ (.int .i64 cnt')).setCell ⟨P, 10, none⟩ (.map ow')).setCell ⟨P, 11, none⟩ (.slice ma' mn' mc')).setCell ⟨P, 12, none⟩ (.int .i64 tl')).setCell ⟨P, 5, none⟩ (.int .i64 st')) P D md lb c st' vc' ve' vp' cnt' ow' ma' mn' mc' tl' ∧
    Fr [P] w ((((((((w.setCell ⟨P, 6, none⟩ (.int .i64 vc')).setCell ⟨P, 7, none⟩ (.int .i64 ve')).setCell ⟨P, 8, none⟩ (.map vp')).setCell ⟨P, 9, none⟩ (.int .i64 cnt')).setCell ⟨P, 10, none⟩ (.map ow')).setCell ⟨P, 11, none⟩ (.slice ma' mn' mc')).setCell ⟨P, 12, none⟩ (.int .i64 tl')).setCell ⟨P, 5, none⟩ (.int .i64 st')) := by
  have h1 := heap_setCell_same w P 6 _ _ (.int .i64 vc') h
  simp only [List.setIfInBounds_toArray, List.set_cons_succ, List.set_cons_zero] at h1
  have h2 := heap_setCell_same _ P 7 _ _ (.int .i64 ve') h1
  simp only [List.setIfInBounds_toArray, List.set_cons_succ, List.set_cons_zero] at h2
  have h3 := heap_setCell_same _ P 8 _ _ (.map vp') h2
  simp only [List.setIfInBounds_toArray, List.set_cons_succ, List.set_cons_zero] at h3
  have h4 := heap_setCell_same _ P 9 _ _ (.int .i64 cnt') h3
  simp only [List.setIfInBounds_toArray, List.set_cons_succ, List.set_cons_zero] at h4
  have h5 := heap_setCell_same _ P 10 _ _ (.map ow') h4
  simp only [List.setIfInBounds_toArray, List.set_cons_succ, List.set_cons_zero] at h5
  have h6 := heap_setCell_same _ P 11 _ _ (.slice ma' mn' mc') h5
  simp only [List.setIfInBounds_toArray, List.set_cons_succ, List.set_cons_zero] at h6
  have h7 := heap_setCell_same _ P 12 _ _ (.int .i64 tl') h6
  simp only [List.setIfInBounds_toArray, List.set_cons_succ, List.set_cons_zero] at h7
  have h8 := heap_setCell_same _ P 5 _ _ (.int .i64 st') h7
  simp only [List.setIfInBounds_toArray, List.set_cons_succ, List.set_cons_zero] at h8
  refine ⟨h8, ?_⟩
  have e : P ∈ [P] := by simp
  exact ((((((((Fr.refl [P] w).set (a := ⟨P, 6, none⟩) e _).set (a := ⟨P, 7, none⟩) e _).set (a := ⟨P, 8, none⟩) e _).set (a := ⟨P, 9, none⟩) e _).set (a := ⟨P, 10, none⟩) e _).set (a := ⟨P, 11, none⟩) e _).set (a := ⟨P, 12, none⟩) e _).set (a := ⟨P, 5, none⟩) e _
theorem Pg.rest {w : World} {P D : Nat} {md : Int} {lb : Nat} {c st vc ve : Int} {vp : Option Nat} {cnt : Int} {ow : Option Nat} {ma : Option Addr} {mn mc : Nat} {tl : Int} (h : Pg w P D md lb c st vc ve vp cnt ow ma mn mc tl) (st' : Int) :
    Pg (w.setCell ⟨P, 5, none⟩ (.int .i64 st')) P D md lb c st' vc ve vp cnt ow ma mn mc tl ∧ Fr [P] w (w.setCell ⟨P, 5, none⟩ (.int .i64 st')) :=
  ⟨by have h1 := heap_setCell_same w P 5 _ _ (.int .i64 st') h; simp only [List.setIfInBounds_toArray, List.set_cons_succ, List.set_cons_zero] at h1; exact h1, Fr.of_set w ⟨P, 5, none⟩ _⟩

set_option maxRecDepth 100000 in
set_option maxHeartbeats 400000 in
theorem begun_any (vc ve : Int) (vp : Option Nat) (w : World) : Calls Tryz.prog 40 #[.agg #[.int .i64 vc, .int .i64 ve, .map vp]] w fun e w' => ∃ ob, e = .returned (.agg #[.int .i64 vc, .int .i64 ve, .map vp, .int .i64 vc, .map (some ob), .slice none 0 0, .int .i64 0]) ∧ w'.heap[ob]? = some (.map #[] 0) ∧ w.heap.size ≤ ob ∧ Below w.heap.size w w' := by
  have hmm := @run_makeMap Tryz.prog
  go_enter Tryz.func40, Tryz.ntmps40
  go_wp2
  refine bodyPost_ret ?_ rfl ⟨w.heap.size + 1 + 1, rfl, map_new _ _ (by simp), by omega, ?_⟩
  · simp [results, Tryz.results40, go_sem]
  · exact (((Below.refl _ _).alloc (Nat.le_refl _) _).alloc (by simp) _).alloc (by simp; omega) _

set_option maxRecDepth 100000 in
set_option maxHeartbeats 1000000 in
theorem end_any {w : World} {P D : Nat} {md : Int} {lb : Nat} {c st vc ve : Int} {vp : Option Nat} {cnt : Int} {ow : Option Nat} {ma : Option Addr} {mn mc : Nat} {tl : Int} {l : M.Lv} (h : Pg w P D md lb c st vc ve vp cnt ow ma mn mc tl) (hT : Tb w lb 110 l) (hne : P ≠ lb) (st' : Int) :
    Calls Tryz.prog 49 #[.pointer (some ⟨P, 0, none⟩), .int .i64 st'] w fun e w' => e = .returned (.tuple #[]) ∧ Pg w' P D md lb c st' 0 0 none 0 none none 0 0 0 ∧ Tb w' lb 110 (l.down c 0).2 ∧ Fr [P, lb] w w' := by
  have d3 := h.c3
  have d4 := h.c4
  have HP := Hid.mk' h
  have HT := Hid.mk' hT
  clear h hT
  go_enter Tryz.func49, Tryz.ntmps49
  go_upto_region 0 with fail
  have hS := Hid.mk' (show (fun w' : World => w'.cell? ⟨P, 3, none⟩ = some (.pointer (some ⟨lb, 0, none⟩)) ∧ w'.cell? ⟨P, 4, none⟩ = some (.int .i64 c)) w from ⟨d3, d4⟩)
  go_region_held3 (fun w' : World => w'.cell? ⟨P, 3, none⟩ = some (.pointer (some ⟨lb, 0, none⟩)) ∧ w'.cell? ⟨P, 4, none⟩ = some (.int .i64 c)) (first | exact hS.out | assumption | go_keep)
    (first | (go_at_call 80; refine (lower_any (HT.out.below (Below.refl _ _).drew) c 0).mono ?_; rintro e w1 ⟨rfl, hT1, hF1⟩; have HT1 := Hid.mk' hT1; have HF1 := Hid.mk' (show Fr [lb] w w1 from hF1); have HP1 := Hid.mk' (HP.out.fr HF1.out (by simpa using hne)); have hS := Hid.mk' (show (fun w' : World => w'.cell? ⟨P, 3, none⟩ = some (.pointer (some ⟨lb, 0, none⟩)) ∧ w'.cell? ⟨P, 4, none⟩ = some (.int .i64 c)) w1 from ⟨HP1.out.c3, HP1.out.c4⟩); clear hT1 hF1))
  have HX := Hid.mk' (HP1.out.retx st' 0 0 none 0 none none 0 0 0)
  obtain ⟨x6, x7, x8, x9, x10, x11, x12⟩ := HP1.out.tx
  have x5 := HP1.out.c5
  have fz := HP1.out.frz
  clear d3 d4 hS
  go_wp2
  go_end0
  refine ⟨rfl, HX.out.1, HT1.out.fr HX.out.2 (by simpa using hne.symm), (HF1.out.mono (fun k hk => .inl (by simp at hk; simp [hk]))).trans HX.out.2 (fun k hk => .inl (by simp at hk; simp [hk]))⟩

set_option maxRecDepth 100000 in
set_option maxHeartbeats 1000000 in
theorem reserve_ok {w : World} {P D : Nat} {md : Int} {lb : Nat} {c st vc ve : Int} {vp : Option Nat} {cnt : Int} {ow : Option Nat} {ma : Option Addr} {mn mc : Nat} {tl : Int} {l : M.Lv} (h : Pg w P D md lb c st vc ve vp cnt ow ma mn mc tl) (hT : Tb w lb 110 l) (hne : P ≠ lb) (hq : (l.up c 2).1 = 0) :
    Calls Tryz.prog 43 #[.pointer (some ⟨P, 0, none⟩)] w fun e w' => e = .returned (.int .i64 0) ∧ Pg w' P D md lb c 3 vc ve vp cnt ow ma mn mc tl ∧ Tb w' lb 110 (l.up c 2).2 ∧ Fr [P, lb] w w' := by
  have d3 := h.c3
  have d4 := h.c4
  have HP := Hid.mk' h
  have HT := Hid.mk' hT
  have HQ := Hid.mk' hq
  clear h hT hq
  go_enter Tryz.func43, Tryz.ntmps43
  go_upto_region 1 with fail
  have hS := Hid.mk' (show (fun w' : World => w'.cell? ⟨P, 3, none⟩ = some (.pointer (some ⟨lb, 0, none⟩)) ∧ w'.cell? ⟨P, 4, none⟩ = some (.int .i64 c)) w from ⟨d3, d4⟩)
  go_region_held3 (fun w' : World => w'.cell? ⟨P, 3, none⟩ = some (.pointer (some ⟨lb, 0, none⟩)) ∧ w'.cell? ⟨P, 4, none⟩ = some (.int .i64 c)) (first | exact hS.out | assumption | go_keep)
    (first | (go_at_call 36; refine (raise_any (HT.out.below (Below.refl _ _).drew) c 2).mono ?_; rintro e w1 ⟨rfl, hT1, hF1⟩; rw [HQ.out]; have HT1 := Hid.mk' hT1; have HF1 := Hid.mk' (show Fr [lb] w w1 from hF1); have HP1 := Hid.mk' (HP.out.fr HF1.out (by simpa using hne)); have hS := Hid.mk' (show (fun w' : World => w'.cell? ⟨P, 3, none⟩ = some (.pointer (some ⟨lb, 0, none⟩)) ∧ w'.cell? ⟨P, 4, none⟩ = some (.int .i64 c)) w1 from ⟨HP1.out.c3, HP1.out.c4⟩); clear hT1 hF1))
  have HX := Hid.mk' (HP1.out.rest 3)
  have x5 := HP1.out.c5
  have fz := HP1.out.frz
  clear d3 d4 hS
  go_wp2
  go_ret
  exact ⟨rfl, HX.out.1, HT1.out.fr HX.out.2 (by simpa using hne.symm), (HF1.out.mono (fun k hk => .inl (by simp at hk; simp [hk]))).trans HX.out.2 (fun k hk => .inl (by simp at hk; simp [hk]))⟩

set_option maxRecDepth 100000 in
set_option maxHeartbeats 1000000 in
theorem alone_ok {w : World} {P D : Nat} {md : Int} {lb : Nat} {c st vc ve : Int} {vp : Option Nat} {cnt : Int} {ow : Option Nat} {ma : Option Addr} {mn mc : Nat} {tl : Int} {l : M.Lv} (h : Pg w P D md lb c st vc ve vp cnt ow ma mn mc tl) (hT : Tb w lb 110 l) (hne : P ≠ lb) (hq : (l.up c 4).1 = 0) :
    Calls Tryz.prog 76 #[.pointer (some ⟨P, 0, none⟩)] w fun e w' => e = .returned (.bool true) ∧ Tb w' lb 110 (l.up c 4).2 ∧ Fr [lb] w w' := by
  have d3 := h.c3
  have d4 := h.c4
  have HP := Hid.mk' h
  have HT := Hid.mk' hT
  have HQ := Hid.mk' hq
  clear h hT hq
  go_enter Tryz.func76, Tryz.ntmps76
  go_upto_region 1 with fail
  have hS := Hid.mk' (show (fun w' : World => w'.cell? ⟨P, 3, none⟩ = some (.pointer (some ⟨lb, 0, none⟩)) ∧ w'.cell? ⟨P, 4, none⟩ = some (.int .i64 c)) w from ⟨d3, d4⟩)
  go_region_held3 (fun w' : World => w'.cell? ⟨P, 3, none⟩ = some (.pointer (some ⟨lb, 0, none⟩)) ∧ w'.cell? ⟨P, 4, none⟩ = some (.int .i64 c)) (first | exact hS.out | assumption | go_keep)
    (first | (go_at_call 36; refine (raise_any (HT.out.below (Below.refl _ _).drew) c 4).mono ?_; rintro e w1 ⟨rfl, hT1, hF1⟩; rw [HQ.out]; have HT1 := Hid.mk' hT1; have HF1 := Hid.mk' (show Fr [lb] w w1 from hF1); have HP1 := Hid.mk' (HP.out.fr HF1.out (by simpa using hne)); have hS := Hid.mk' (show (fun w' : World => w'.cell? ⟨P, 3, none⟩ = some (.pointer (some ⟨lb, 0, none⟩)) ∧ w'.cell? ⟨P, 4, none⟩ = some (.int .i64 c)) w1 from ⟨HP1.out.c3, HP1.out.c4⟩); clear hT1 hF1))
  clear d3 d4 hS
  go_wp2
  go_ret
  exact ⟨rfl, HT1.out, HF1.out⟩

set_option maxRecDepth 100000 in
set_option maxHeartbeats 1000000 in
theorem open_bad (dp lp : Option Addr) (md c : Int) (hbad : dp = none ∨ lp = none ∨ ¬ (md = 1 ∨ md = 2) ∨ ¬ (0 ≤ c ∧ c < 4)) (w : World) :
    Calls Tryz.prog 28 #[.pointer dp, .int .i64 md, .pointer lp, .int .i64 c] w fun e w' => e = .returned (.tuple #[.pointer none, .int .i64 1]) ∧ w' = w := by
  cases dp with
  | none =>
    go_enter Tryz.func28, Tryz.ntmps28
    go_wp2
    go_ret2
    exact ⟨rfl, rfl⟩
  | some d =>
    cases lp with
    | none =>
      go_enter Tryz.func28, Tryz.ntmps28
      go_wp2
      go_ret2
      exact ⟨rfl, rfl⟩
    | some l =>
      have hway : ((md != 1) = true ∧ (md != 2) = true) ∨ ((md = 1 ∨ md = 2) ∧ (c < 0 ∨ (¬ c < 0 ∧ 4 ≤ c))) := by
        by_cases h1 : md = 1 ∨ md = 2
        · right
          refine ⟨h1, ?_⟩
          rcases hbad with h | h | h | h
          · cases h
          · cases h
          · exact absurd h1 h
          · omega
        · left
          simp
          omega
      clear hbad
      rcases hway with ⟨h1, h2⟩ | ⟨rfl | rfl, h1 | ⟨h1, h2⟩⟩
      all_goals
        go_enter Tryz.func28, Tryz.ntmps28
        go_wp2
        go_ret2
        exact ⟨rfl, rfl⟩

set_option maxRecDepth 100000 in
set_option maxHeartbeats 1000000 in
theorem open_ok {w : World} {D n : Nat} {A : List AF} {F : List Nat} (h : Dz w D n A F) (hj : M.has (nmA A) jourN = false) (md c : Int) (lb : Nat) (hm : md = 1 ∨ md = 2) (hc : 0 ≤ c ∧ c < 4) :
    Calls Tryz.prog 28 #[.pointer (some ⟨D, 0, none⟩), .int .i64 md, .pointer (some ⟨lb, 0, none⟩), .int .i64 c] w fun e w' => e = .returned (.tuple #[.pointer (some ⟨w.heap.size, 0, none⟩), .int .i64 0]) ∧ Pg w' w.heap.size D md lb c 1 0 0 none 0 none none 0 0 0 ∧ Below w.heap.size w w' := by
  obtain ⟨w1, hw1⟩ : ∃ w1, w1 = w.alloc (.cells #[.pointer (some ⟨D, 0, none⟩), .int .i64 0, .int .i64 md, .pointer (some ⟨lb, 0, none⟩), .int .i64 c, .int .i64 1, .int .i64 0, .int .i64 0, .map none, .int .i64 0, .map none, .slice none 0 0, .int .i64 0] 97) := ⟨_, rfl⟩
  have hb1 : Below w.heap.size w w1 := by rw [hw1]; exact (Below.refl _ _).alloc (Nat.le_refl _) _
  have HP1 : Hid (Pg w1 w.heap.size D md lb c 1 0 0 none 0 none none 0 0 0) := by rw [hw1]; exact heap_alloc_new w _
  have HSt := Hid.mk' (settle_none (h.on hb1) HP1.out.ss hj)
  have HB1 := Hid.mk' hb1
  have n1 : ¬ c < 0 := by omega
  have n2 : ¬ 4 ≤ c := by omega
  clear h hj hb1
  rcases hm with rfl | rfl
  all_goals
    go_enter Tryz.func28, Tryz.ntmps28
    go_upto_region 4 with fail
    rw [← hw1]
    clear hw1
    go_wp2_with fail
    refine HSt.out.mono ?_
    rintro e w2 ⟨rfl, hb2⟩
    have HP2 := Hid.mk' (HP1.out.on hb2)
    have HB2 := Hid.mk' (HB1.out.trans (hb2.mono HB1.out.size))
    have c1 := HP2.out.c1
    clear hb2
    go_wp2
    go_ret2
    refine ⟨?_, HP2.out, HB2.out⟩
    rfl

set_option maxRecDepth 100000 in
set_option maxHeartbeats 400000 in
theorem count_any {w : World} {P : Nat} {cnt : Int} (x9 : w.cell? ⟨P, 9, none⟩ = some (.int .i64 cnt)) : Calls Tryz.prog 19 #[.pointer (some ⟨P, 0, none⟩)] w fun e w' => e = .returned (.int .i64 cnt) ∧ w' = w := by
  go_enter Tryz.func19, Tryz.ntmps19
  go_wp2
  go_ret
  exact ⟨rfl, rfl⟩

set_option maxRecDepth 100000 in
set_option maxHeartbeats 400000 in
theorem rollback_ok {w : World} {P D : Nat} {md : Int} {lb : Nat} {c st vc ve : Int} {vp : Option Nat} {cnt : Int} {ow : Option Nat} {ma : Option Addr} {mn mc : Nat} {tl : Int} {l : M.Lv} (h : Pg w P D md lb c st vc ve vp cnt ow ma mn mc tl) (hT : Tb w lb 110 l) (hne : P ≠ lb) (hst : st = 2 ∨ st = 3) :
    Calls Tryz.prog 25 #[.pointer (some ⟨P, 0, none⟩)] w fun e w' => e = .returned (.int .i64 0) ∧ Pg w' P D md lb c 1 0 0 none 0 none none 0 0 0 ∧ Tb w' lb 110 (l.down c 0).2 ∧ Fr [P, lb] w w' := by
  have HI := Hid.mk' (inside_any (P := P) (st := st) (by omega) h.c5)
  rw [show insE st = 0 by unfold insE; rw [if_neg (by omega), if_neg (by omega)]] at HI
  have HE := Hid.mk' (end_any h hT hne 1)
  clear h hT hst
  go_enter Tryz.func25, Tryz.ntmps25
  go_wp2_with fail
  refine HI.out.mono ?_
  rintro e w1 ⟨rfl, hw⟩
  obtain rfl := hw.symm
  clear hw HI
  go_wp2_with fail
  refine HE.out.mono ?_
  rintro e w2 ⟨rfl, hP2, hT2, hF2⟩
  have HP2 := Hid.mk' hP2
  have HT2 := Hid.mk' hT2
  have HF2 := Hid.mk' hF2
  clear hP2 hT2 hF2 HE
  go_wp2
  go_ret
  exact ⟨rfl, HP2.out, HT2.out, HF2.out⟩

set_option maxRecDepth 100000 in
set_option maxHeartbeats 2000000 in
theorem begin_ok {w : World} {P D n : Nat} {A : List AF} {F : List Nat} {md : Int} {lb : Nat} {c : Int} {l : M.Lv} (hD : Dz w D n A F) (hj : M.has (nmA A) jourN = false) (hl : seenA A logN = []) (hP : Pg w P D md lb c 1 0 0 none 0 none none 0 0 0) (hT : Tb w lb 110 l) (hne : P ≠ lb) (hlF : lb ∉ F) (hq : (l.up c 1).1 = 0) :
    Calls Tryz.prog 13 #[.pointer (some ⟨P, 0, none⟩)] w fun e w' => ∃ pb ob, e = .returned (.int .i64 0) ∧ Pg w' P D md lb c 2 (cntA A : Nat) 0 (some pb) (cntA A : Nat) (some ob) none 0 0 0 ∧ w'.heap[pb]? = some (.map #[] 0) ∧ w'.heap[ob]? = some (.map #[] 0) ∧ (w.heap.size ≤ pb ∧ w.heap.size ≤ ob ∧ pb ≠ ob) ∧ Tb w' lb 110 (l.up c 1).2 ∧ Fr [P, lb] w w' := by
  obtain ⟨m, hm⟩ : ∃ m, cntA A = m := ⟨_, rfl⟩
  rw [hm]
  have HMm := Hid.mk' hm
  clear hm
  have HO := Hid.mk' (outside_any (P := P) (st := 1) (by omega) hP.c5)
  have HNe : Hid (P < w.heap.size) := hP.lt
  have d3 := hP.c3
  have d4 := hP.c4
  have HD := Hid.mk' hD
  have HP := Hid.mk' hP
  have HT := Hid.mk' hT
  have HQ := Hid.mk' hq
  have HJ := Hid.mk' hj
  have HL := Hid.mk' hl
  clear hD hP hT hq hj hl
  go_enter Tryz.func13, Tryz.ntmps13
  go_wp2_with fail
  refine HO.out.mono ?_
  rintro e w0 ⟨rfl, hw⟩
  obtain rfl := hw.symm
  clear hw HO
  rw [show outE 1 = 0 from rfl]
  go_upto_region 4 with fail
  go_cut [4] from 12 to 20 (fun v4 wx => v4 = .int .i64 0 ∧ Tb wx lb 110 (l.up c 1).2 ∧ Fr [lb] w wx)
  case first =>
    have hS := Hid.mk' (show (fun w' : World => w'.cell? ⟨P, 3, none⟩ = some (.pointer (some ⟨lb, 0, none⟩)) ∧ w'.cell? ⟨P, 4, none⟩ = some (.int .i64 c)) w from ⟨d3, d4⟩)
    go_region_held3 (fun w' : World => w'.cell? ⟨P, 3, none⟩ = some (.pointer (some ⟨lb, 0, none⟩)) ∧ w'.cell? ⟨P, 4, none⟩ = some (.int .i64 c)) (first | exact hS.out | assumption | go_keep)
      (first | (go_at_call 36; refine (raise_any (HT.out.below (Below.refl _ _).drew) c 1).mono ?_; rintro e w1 ⟨rfl, hT1, hF1⟩; rw [HQ.out]; have HT1 := Hid.mk' hT1; have HF1 := Hid.mk' (show Fr [lb] w w1 from hF1); have HP1 := Hid.mk' (HP.out.fr HF1.out (by simpa using hne)); have hS := Hid.mk' (show (fun w' : World => w'.cell? ⟨P, 3, none⟩ = some (.pointer (some ⟨lb, 0, none⟩)) ∧ w'.cell? ⟨P, 4, none⟩ = some (.int .i64 c)) w1 from ⟨HP1.out.c3, HP1.out.c4⟩); clear hT1 hF1))
    all_goals
      go_wp2_with fail
      go_meet
      exact ⟨by first | rfl | rw [HQ.out], HT1.out, HF1.out⟩
  case rest =>
    obtain ⟨rfl, hT1, hF1⟩ := hcut
    have HT1 := Hid.mk' hT1
    have HF1 := Hid.mk' hF1
    have HD1 := Hid.mk' (HD.out.fr hF1 (fun k hk hm => by simp at hm; subst hm; exact hlF hk))
    have HP1 := Hid.mk' (HP.out.fr hF1 (by simpa using hne))
    have HSt := Hid.mk' (settle_none HD1.out HP1.out.ss HJ.out)
    clear hT1 hF1 HT HD HP d3 d4
    generalize wc = w1 at *
    go_wp2_with fail
    refine HSt.out.mono ?_
    rintro e w2 ⟨rfl, hb2⟩
    have HD2 := Hid.mk' (HD1.out.on hb2)
    have HP2 := Hid.mk' (HP1.out.on hb2)
    have HT2 := Hid.mk' (HT1.out.below hb2)
    have HF2 := Hid.mk' (HF1.out.trans (Fr.of_below (fs := []) hb2) (fun k hk => by cases hk))
    have HLk := Hid.mk' (slook_none HD2.out HP2.out.ss HL.out)
    rw [HMm.out] at HLk
    clear hb2 HD1 HP1 HT1 HF1 HSt
    go_wp2_with fail
    refine HLk.out.mono ?_
    rintro e w3 ⟨pb, rfl, hpb, hpl, hb3⟩
    have HP3 := Hid.mk' (HP2.out.on hb3)
    have HT3 := Hid.mk' (HT2.out.below hb3)
    have HF3 := Hid.mk' (HF2.out.trans (Fr.of_below (fs := []) hb3) (fun k hk => by cases hk))
    have HM3 := Hid.mk' hpb
    have HZ3 : Hid (w.heap.size ≤ pb ∧ pb < w3.heap.size) := ⟨Nat.le_trans HF2.out.2.1 hpl, (Array.getElem?_eq_some_iff.1 hpb).1⟩
    clear hpb hpl hb3 HD2 HP2 HT2 HF2 HLk
    obtain ⟨w4, hw4⟩ : ∃ w4, w4 = w3.alloc (.cells #[.int .i64 (m : Int), .int .i64 0, .map (some pb)] 91) := ⟨_, rfl⟩
    have hb4 : Below w3.heap.size w3 w4 := by rw [hw4]; exact (Below.refl _ _).alloc (Nat.le_refl _) _
    obtain ⟨vb, hvb⟩ : ∃ vb, vb = w3.heap.size := ⟨_, rfl⟩
    have k0 : w4.cell? ⟨vb, 0, none⟩ = some (.int .i64 (m : Int)) := by rw [hw4, hvb]; simp
    have k1 : w4.cell? ⟨vb, 1, none⟩ = some (.int .i64 0) := by rw [hw4, hvb]; simp
    have k2 : w4.cell? ⟨vb, 2, none⟩ = some (.map (some pb)) := by rw [hw4, hvb]; simp
    have HP4 := Hid.mk' (HP3.out.on hb4)
    have HT4 := Hid.mk' (HT3.out.below hb4)
    have HF4 := Hid.mk' (HF3.out.trans (Fr.of_below (fs := []) hb4) (fun k hk => by cases hk))
    have HM4 : Hid (w4.heap[pb]? = some (.map #[] 0)) := row_on hb4 HM3.out
    have HZ4 : Hid (w.heap.size ≤ pb ∧ pb < w4.heap.size) := ⟨HZ3.out.1, Nat.lt_of_lt_of_le HZ3.out.2 hb4.size⟩
    have HRf := Hid.mk' (refused_any HP4.out.c1)
    go_upto_region 9 with fail
    rw [← hw4, ← hvb]
    clear hw4 hvb hb4 HP3 HT3 HF3 HM3 HZ3
    go_wp2_with fail
    refine HRf.out.mono ?_
    rintro e w' ⟨rfl, hw⟩
    obtain rfl := hw.symm
    clear hw HRf
    go_wp2_with fail
    refine (begun_any _ _ _ w4).mono ?_
    rintro e w5 ⟨ob, rfl, hob, hol, hb5⟩
    have HP5 := Hid.mk' (HP4.out.on hb5)
    have HT5 := Hid.mk' (HT4.out.below hb5)
    have HF5 := Hid.mk' (HF4.out.trans (Fr.of_below (fs := []) hb5) (fun k hk => by cases hk))
    have HM5 : Hid (w5.heap[pb]? = some (.map #[] 0)) := row_on hb5 HM4.out
    have HO5 := Hid.mk' hob
    have HZ5 : Hid (w.heap.size ≤ pb ∧ w.heap.size ≤ ob ∧ pb ≠ ob) := ⟨HZ4.out.1, Nat.le_trans HF4.out.2.1 hol, by have := HZ4.out.2; omega⟩
    have HX := Hid.mk' (HP5.out.retx 2 (m : Int) 0 (some pb) (m : Int) (some ob) none 0 0 0)
    obtain ⟨x6, x7, x8, x9, x10, x11, x12⟩ := HP5.out.tx
    have x5 := HP5.out.c5
    have fz := HP5.out.frz
    clear hob hol hb5 HP4 HT4 HF4 HM4 HZ4 k0 k1 k2
    go_wp2
    go_ret
    refine ⟨pb, ob, rfl, HX.out.1, ?_, ?_, HZ5.out, HT5.out.fr HX.out.2 (by simpa using hne.symm), (HF5.out.mono (fun k hk => .inl (by simp at hk; simp [hk]))).trans HX.out.2 (fun k hk => .inl (by simp at hk; simp [hk]))⟩
    · rw [HX.out.2.2.2 pb (Array.getElem?_eq_some_iff.1 HM5.out).1 (by simp; have := HZ5.out; have := HNe.out; omega)]
      exact HM5.out
    · rw [HX.out.2.2.2 ob (Array.getElem?_eq_some_iff.1 HO5.out).1 (by simp; have := HZ5.out; have := HNe.out; omega)]
      exact HO5.out
end Go.Proofs.YtchbheoapldkaaaGreat
namespace Go.Proofs.YtchbheoapldkaaaGreat
open Go.RowKit Go.Maps

theorem list8 {l : List Nat} (h : l.length = 8) : ∃ a b c d e f g i, l = [a, b, c, d, e, f, g, i] := by
  match l, h with
  | [a, b, c, d, e, f, g, i], _ => exact ⟨a, b, c, d, e, f, g, i, rfl⟩
theorem row_lt {w : World} {g : Nat} {o : Obj} (h : w.heap[g]? = some o) : g < w.heap.size := (Array.getElem?_eq_some_iff.1 h).1
theorem pnL_head (l : List Nat) (k N : Nat) : pnL l 0 k N k = be k N ++ l.drop k := by
  unfold pnL
  rw [Nat.sub_self, Nat.add_zero, List.take_zero, List.nil_append, List.drop_zero, Nat.zero_add]
theorem pnL_two (x y : Nat) : pnL (pnL [0, 0, 0, 0, 0, 0, 0, 0] 0 4 x 4) 4 4 y 4 = be 4 x ++ be 4 y := by
  rw [pnL_head]
  unfold pnL
  have hb := be_length 4 x
  rw [Nat.sub_self, Nat.add_zero, List.take_append_of_le_length (by omega), List.take_of_length_le (by omega), List.drop_zero, List.drop_of_length_le (by simp [hb]), List.append_nil]
theorem rw_row {w : World} {g n : Nat} {l : List Nat} (h : w.heap[g]? = some (.cells (l.map B8).toArray 5 (0, 0))) (hn : l.length = n) (hb : n ≤ 4194304) : Rw w (.slice (some ⟨g, 0, none⟩) n n) l := by
  refine ⟨⟨by simp, Or.inr ⟨g, n, _, ?_, Nat.zero_le _, h, by omega, by unfold maxLen; omega, by simp [hn], by simp [List.take_of_length_le]⟩⟩, by omega⟩
  rw [hn]
/-- The sum of a batch's bytes. -/
def sumB (l : List Nat) : Nat × Nat := M8.sum (M8.sum 0 0 (l.take 16)).1 (M8.sum 0 0 (l.take 16)).2 (l.drop 64)

set_option maxRecDepth 100000 in
set_option maxHeartbeats 1000000 in
theorem sumof_any {w : World} (g cap : Nat) (l : List Nat) (n : Nat) (hn : l.length = n) (hs : Sees w (.slice (some ⟨g, 0, none⟩) n cap) l) (hl : ∀ x ∈ l, x < 256) (h64 : 64 ≤ n) (hcap : n ≤ cap) (hc4 : cap ≤ 10000000) :
    Calls Tryz.prog 94 #[.slice (some ⟨g, 0, none⟩) n cap] w fun e w' => ∃ s0 s1 s2 s3 s4 s5 s6 s7 : Nat, e = .returned (.agg #[.int .u8 (s0 : Int), .int .u8 (s1 : Int), .int .u8 (s2 : Int), .int .u8 (s3 : Int), .int .u8 (s4 : Int), .int .u8 (s5 : Int), .int .u8 (s6 : Int), .int .u8 (s7 : Int)]) ∧ [s0, s1, s2, s3, s4, s5, s6, s7] = be 4 (sumB l).1 ++ be 4 (sumB l).2 ∧ Below w.heap.size w w' := by
  have HS := Hid.mk' hs
  have HL := Hid.mk' hl
  have HN := Hid.mk' hn
  obtain ⟨a1, ha1⟩ : ∃ a, M8.sum 0 0 (l.take 16) = a := ⟨_, rfl⟩
  obtain ⟨a2, ha2⟩ : ∃ a, M8.sum a1.1 a1.2 (l.drop 64) = a := ⟨_, rfl⟩
  have hbd := M8.sum_lt (a := 0) (b := 0) (l.take 16) (by omega) (by omega)
  rw [ha1] at hbd
  have hbd2 := M8.sum_lt (l.drop 64) hbd.1 hbd.2
  rw [ha2] at hbd2
  have HA : Hid (sumB l = a2) := by show _ = _; unfold sumB; rw [ha1, ha2]
  have H1 := Hid.mk' (fun (wx : World) (hb : Below w.heap.size w wx) => sum_any 0 0 (.slice (some ⟨g, 0, none⟩) 16 cap) (l.take 16) wx ((HS.out.below hb).take 16 (by rw [HN.out]; omega)) (fun x hx => HL.out x (List.mem_of_mem_take hx)) ⟨some ⟨g, 0, none⟩, 16, cap, rfl, by omega⟩)
  rw [ha1] at H1
  clear hs hl hn ha1
  go_enter Tryz.func94, Tryz.ntmps94
  go_wp2_with fail
  refine (H1.out _ ((Below.refl _ _).alloc (Nat.le_refl _) _)).mono ?_
  rintro e w1 ⟨rfl, hb1⟩
  have HB1 : Hid (Below w.heap.size w w1) := ((Below.refl _ _).alloc (Nat.le_refl _) _).trans (hb1.mono (by simp))
  have HZ1 : Hid (w1.heap[w.heap.size]? = some (.cells #[.int .u8 0, .int .u8 0, .int .u8 0, .int .u8 0, .int .u8 0, .int .u8 0, .int .u8 0, .int .u8 0] 156 (0, 0))) := row_on hb1 (heap_alloc_new w _)
  clear hb1
  obtain ⟨x1, y1⟩ := a1
  obtain ⟨x2, y2⟩ := a2
  simp only at ha2 HA H1 hbd hbd2 ⊢
  clear hbd
  go_upto_region 2 with fail
  go_cut [3, 4] from 12 to 19 (fun u3 u4 wx => u3 = .int .u32 (x2 : Int) ∧ u4 = .int .u32 (y2 : Int) ∧ Below w1.heap.size w1 wx)
  case first =>
    by_cases hc : cap = 64
    · have hn6 : n = 64 := by omega
      have H2 := Hid.mk' (sum_any x1 y1 (.slice (some ⟨g, 0, none⟩) 0 0) (l.drop 64) w1 (Sees.drop0 64 (by rw [HN.out]; omega) rfl) (fun x hx => HL.out x (List.mem_of_mem_drop hx)) ⟨some ⟨g, 0, none⟩, 0, 0, rfl, by omega⟩)
      rw [ha2] at H2
      subst hc hn6
      go_wp2_with fail
      refine H2.out.mono ?_
      rintro e w2 ⟨rfl, hb2⟩
      go_wp2_with fail
      go_meet
      exact ⟨rfl, rfl, hb2⟩
    · have hs2 := Sees.drop1 (a := some ⟨g, 0, none⟩) (ca := cap) (l := l) (by rw [HN.out]; exact HS.out.below HB1.out) 64 (by rw [HN.out]; exact h64)
      rw [HN.out, Option.map_some, Addr.add_lit, Nat.zero_add] at hs2
      have H2 := Hid.mk' (sum_any x1 y1 (.slice (some ⟨g, 64, none⟩) (n - 64) (cap - 64)) (l.drop 64) w1 hs2 (fun x hx => HL.out x (List.mem_of_mem_drop hx)) ⟨some ⟨g, 64, none⟩, n - 64, cap - 64, rfl, by omega⟩)
      rw [ha2] at H2
      clear hs2
      go_wp2_with fail
      refine H2.out.mono ?_
      rintro e w2 ⟨rfl, hb2⟩
      go_wp2_with fail
      go_meet
      exact ⟨rfl, rfl, hb2⟩
  case rest =>
    obtain ⟨rfl, rfl, hb2⟩ := hcut
    have HB2 := Hid.mk' (HB1.out.trans (hb2.mono HB1.out.size))
    have HZ2 := Hid.mk' (row_on hb2 HZ1.out)
    clear hb2 HB1 HZ1 H1
    generalize wc = w2 at *
    obtain ⟨w3, hw3⟩ : ∃ w3, w3 = w2.alloc (.cells #[.int .u8 0, .int .u8 0, .int .u8 0, .int .u8 0, .int .u8 0, .int .u8 0, .int .u8 0, .int .u8 0] 156) := ⟨_, rfl⟩
    obtain ⟨sb, hsb⟩ : ∃ sb, sb = w2.heap.size := ⟨_, rfl⟩
    have hb3 : Below w2.heap.size w2 w3 := by rw [hw3]; exact (Below.refl _ _).alloc (Nat.le_refl _) _
    have HB3 := Hid.mk' (HB2.out.trans (hb3.mono HB2.out.size))
    have HZ3 := Hid.mk' (row_on hb3 HZ2.out)
    have HR3 : Hid (w3.heap[sb]? = some (.cells (([0, 0, 0, 0, 0, 0, 0, 0] : List Nat).map B8).toArray 156 (0, 0))) := by rw [hw3, hsb]; exact heap_alloc_new w2 _
    have hsz : w.heap.size < sb := by rw [hsb]; exact row_lt HZ2.out
    have HP1 := Hid.mk' (putnum_any sb 0 4 8 x2 [0, 0, 0, 0, 0, 0, 0, 0] 156 HR3.out (by simp) (by omega) (by omega))
    go_upto_region 4 with fail
    rw [← hw3, ← hsb]
    clear hw3 hsb hb3 HZ2 HB2
    go_wp2_with fail
    refine HP1.out.mono ?_
    rintro e w4 ⟨rfl, hr4, hF4⟩
    have HP2 := Hid.mk' (putnum_any sb 4 4 4 y2 _ 156 hr4 (by rw [pnL_length _ _ _ (by simp) (by omega)]; simp) (by omega) (by omega))
    rw [pnL_two] at HP2
    have HB4 := Hid.mk' (HB3.out.trans (hF4.below HB3.out.size (by simp; omega)))
    have HZ4 := Hid.mk' ((hF4.2.2 _ (row_lt HZ3.out) (by simp; omega)).trans HZ3.out)
    clear hr4 hF4 HP1 HR3 HZ3 HB3
    go_wp2_with fail
    refine HP2.out.mono ?_
    rintro e w5 ⟨rfl, hr5, hF5⟩
    have HB5 := Hid.mk' (HB4.out.trans (hF5.below HB4.out.size (by simp; omega)))
    have HZ5 := Hid.mk' ((hF5.2.2 _ (row_lt HZ4.out) (by simp; omega)).trans HZ4.out)
    obtain ⟨s0, s1, s2, s3, s4, s5, s6, s7, h8⟩ := list8 (l := be 4 x2 ++ be 4 y2) (by simp [be_length])
    have H8 : Hid ([s0, s1, s2, s3, s4, s5, s6, s7] = be 4 (sumB l).1 ++ be 4 (sumB l).2) := by show _ = _; rw [HA.out, h8]
    rw [h8] at hr5
    have q0 : w5.cell? ⟨sb, 0, none⟩ = some (.int .u8 (s0 : Int)) := (cell_of_row w5 sb 0 _ _ (0, 0) hr5).trans rfl
    have q1 : w5.cell? ⟨sb, 1, none⟩ = some (.int .u8 (s1 : Int)) := (cell_of_row w5 sb 1 _ _ (0, 0) hr5).trans rfl
    have q2 : w5.cell? ⟨sb, 2, none⟩ = some (.int .u8 (s2 : Int)) := (cell_of_row w5 sb 2 _ _ (0, 0) hr5).trans rfl
    have q3 : w5.cell? ⟨sb, 3, none⟩ = some (.int .u8 (s3 : Int)) := (cell_of_row w5 sb 3 _ _ (0, 0) hr5).trans rfl
    have q4 : w5.cell? ⟨sb, 4, none⟩ = some (.int .u8 (s4 : Int)) := (cell_of_row w5 sb 4 _ _ (0, 0) hr5).trans rfl
    have q5 : w5.cell? ⟨sb, 5, none⟩ = some (.int .u8 (s5 : Int)) := (cell_of_row w5 sb 5 _ _ (0, 0) hr5).trans rfl
    have q6 : w5.cell? ⟨sb, 6, none⟩ = some (.int .u8 (s6 : Int)) := (cell_of_row w5 sb 6 _ _ (0, 0) hr5).trans rfl
    have q7 : w5.cell? ⟨sb, 7, none⟩ = some (.int .u8 (s7 : Int)) := (cell_of_row w5 sb 7 _ _ (0, 0) hr5).trans rfl
    have z0 : w5.cell? ⟨w.heap.size, 0, none⟩ = some (.int .u8 0) := (cell_of_row w5 _ 0 _ _ (0, 0) HZ5.out).trans rfl
    have f0 : w5.frozen? ⟨w.heap.size, 0, none⟩ = false := by have h1 := HZ5.out; simp [World.frozen?, h1]
    have z1 : w5.cell? ⟨w.heap.size, 1, none⟩ = some (.int .u8 0) := (cell_of_row w5 _ 1 _ _ (0, 0) HZ5.out).trans rfl
    have f1 : w5.frozen? ⟨w.heap.size, 1, none⟩ = false := by have h1 := HZ5.out; simp [World.frozen?, h1]
    have z2 : w5.cell? ⟨w.heap.size, 2, none⟩ = some (.int .u8 0) := (cell_of_row w5 _ 2 _ _ (0, 0) HZ5.out).trans rfl
    have f2 : w5.frozen? ⟨w.heap.size, 2, none⟩ = false := by have h1 := HZ5.out; simp [World.frozen?, h1]
    have z3 : w5.cell? ⟨w.heap.size, 3, none⟩ = some (.int .u8 0) := (cell_of_row w5 _ 3 _ _ (0, 0) HZ5.out).trans rfl
    have f3 : w5.frozen? ⟨w.heap.size, 3, none⟩ = false := by have h1 := HZ5.out; simp [World.frozen?, h1]
    have z4 : w5.cell? ⟨w.heap.size, 4, none⟩ = some (.int .u8 0) := (cell_of_row w5 _ 4 _ _ (0, 0) HZ5.out).trans rfl
    have f4 : w5.frozen? ⟨w.heap.size, 4, none⟩ = false := by have h1 := HZ5.out; simp [World.frozen?, h1]
    have z5 : w5.cell? ⟨w.heap.size, 5, none⟩ = some (.int .u8 0) := (cell_of_row w5 _ 5 _ _ (0, 0) HZ5.out).trans rfl
    have f5 : w5.frozen? ⟨w.heap.size, 5, none⟩ = false := by have h1 := HZ5.out; simp [World.frozen?, h1]
    have z6 : w5.cell? ⟨w.heap.size, 6, none⟩ = some (.int .u8 0) := (cell_of_row w5 _ 6 _ _ (0, 0) HZ5.out).trans rfl
    have f6 : w5.frozen? ⟨w.heap.size, 6, none⟩ = false := by have h1 := HZ5.out; simp [World.frozen?, h1]
    have z7 : w5.cell? ⟨w.heap.size, 7, none⟩ = some (.int .u8 0) := (cell_of_row w5 _ 7 _ _ (0, 0) HZ5.out).trans rfl
    have f7 : w5.frozen? ⟨w.heap.size, 7, none⟩ = false := by have h1 := HZ5.out; simp [World.frozen?, h1]
    clear hr5 hF5 HP2 HZ4 HB4 h8 ha2 HA
    go_wp2
    refine bodyPost_ret ?_ rfl ⟨s0, s1, s2, s3, s4, s5, s6, s7, rfl, H8.out, ?_⟩
    · simp [results, Tryz.results94, go_sem, z0, z1, z2, z3, z4, z5, z6, z7]
    · exact ((((((((HB5.out.setCell (p := ⟨w.heap.size, 0, none⟩) (Nat.le_refl _) _).setCell (p := ⟨w.heap.size, 1, none⟩) (Nat.le_refl _) _).setCell (p := ⟨w.heap.size, 2, none⟩) (Nat.le_refl _) _).setCell (p := ⟨w.heap.size, 3, none⟩) (Nat.le_refl _) _).setCell (p := ⟨w.heap.size, 4, none⟩) (Nat.le_refl _) _).setCell (p := ⟨w.heap.size, 5, none⟩) (Nat.le_refl _) _).setCell (p := ⟨w.heap.size, 6, none⟩) (Nat.le_refl _) _).setCell (p := ⟨w.heap.size, 7, none⟩) (Nat.le_refl _) _)
/-- n noughts. -/
def nul (n : Nat) : List Nat := List.replicate n 0
/-- The head of a batch without pages, ahead of its sum; with it. -/
def enc4 (kd cn pl : Nat) : List Nat := (pnL (pnL (pnL (pnL (nul 64) 0 4 kd 4) 4 4 cn 4) 8 4 pl 4) 12 4 0 4)
def encN (kd cn pl : Nat) : List Nat := ((enc4 kd cn pl).take 16 ++ ((be 4 (sumB (enc4 kd cn pl)).1 ++ be 4 (sumB (enc4 kd cn pl)).2) ++ (enc4 kd cn pl).drop (16 + 8))).set 63 165
theorem enc4_length (kd cn pl : Nat) : (enc4 kd cn pl).length = 64 := by
  unfold enc4 nul
  simp [pnL, be_length]
theorem encN_length (kd cn pl : Nat) : (encN kd cn pl).length = 64 := by
  unfold encN
  simp [enc4_length, be_length]
theorem pnL_lt {l : List Nat} (h : ∀ x ∈ l, x < 256) (o k N c : Nat) : ∀ x ∈ pnL l o k N c, x < 256 := by
  intro x hx
  unfold pnL at hx
  rcases List.mem_append.1 hx with hx | hx
  · exact h x (List.mem_of_mem_take hx)
  · rcases List.mem_append.1 hx with hx | hx
    · exact be_lt k N x (List.mem_of_mem_drop hx)
    · exact h x (List.mem_of_mem_drop hx)
theorem enc4_lt (kd cn pl : Nat) : ∀ x ∈ enc4 kd cn pl, x < 256 := by
  unfold enc4
  refine pnL_lt (pnL_lt (pnL_lt (pnL_lt (fun x hx => ?_) _ _ _ _) _ _ _ _) _ _ _ _) _ _ _ _
  unfold nul at hx
  have := (List.mem_replicate.1 hx).2
  omega
theorem made_64 : madeCells (Value.int .u8 0).cells (64 * 1) = ((nul 64).map B8).toArray := by
  apply Array.ext'
  rw [show (Value.int .u8 0).cells = #[Value.int .u8 0] from rfl, toList_madeCells_one]
  unfold nul
  rw [List.map_replicate]
  rfl
theorem make_64 (w : World) : (Instr.makeSlice 37 (.int .i64 64) (.int .i64 64)).run Tryz.prog w = .ok (.slice (some ⟨w.heap.size, 0, none⟩) 64 64) (w.alloc (.cells ((nul 64).map B8).toArray 5)) := by
  obtain ⟨i0, hi, hz0, hz1, hz2⟩ := info_parts Tryz.info5
  have h := run_makeSlice w 37 5 i0 _ Tryz.underlying37 hi hz0 .i64 .i64 64 64 (by decide) (by decide) (by rw [hz1]; decide) (by rw [hz2]; decide) (by decide)
  rw [hz1, show (64 : Int).toNat = 64 from rfl, made_64] at h
  exact h

set_option maxRecDepth 100000 in
set_option maxHeartbeats 400000 in
theorem bsize_any (kd cn pl : Int) (a : Option Addr) (n c : Nat) (hn : n ≤ 10000) (w : World) : Calls Tryz.prog 69 #[.agg #[.int .i64 kd, .int .i64 cn, .int .i64 pl, .slice a n c]] w fun e w' => e = .returned (.int .i64 ((64 + n * 520 : Nat) : Int)) ∧ Below w.heap.size w w' := by
  go_enter Tryz.func69, Tryz.ntmps69
  go_wp2
  go_ret
  exact ⟨ret_int (by omega), (Below.refl _ _).alloc (Nat.le_refl _) _⟩

set_option maxRecDepth 100000 in
set_option maxHeartbeats 2000000 in
theorem encode_none (kd cn pl : Nat) (h1 : kd ≤ 1000000000) (h2 : cn ≤ 1000000000) (h3 : pl ≤ 1000000000) (w : World) : Calls Tryz.prog 106 #[.agg #[.int .i64 (kd : Int), .int .i64 (cn : Int), .int .i64 (pl : Int), .slice none 0 0]] w fun e w' => ∃ g, e = .returned (.slice (some ⟨g, 0, none⟩) 64 64) ∧ Rw w' (.slice (some ⟨g, 0, none⟩) 64 64) (encN kd cn pl) ∧ w.heap.size ≤ g ∧ Below w.heap.size w w' := by
  have hmk := make_64
  obtain ⟨w1, hw1⟩ : ∃ w1, w1 = w.alloc (.cells #[.int .i64 (kd : Int), .int .i64 (cn : Int), .int .i64 (pl : Int), .slice none 0 0] 119) := ⟨_, rfl⟩
  obtain ⟨bb, hbb⟩ : ∃ bb, bb = w.heap.size := ⟨_, rfl⟩
  have hb1 : Below w.heap.size w w1 := by rw [hw1]; exact (Below.refl _ _).alloc (Nat.le_refl _) _
  have k0 : w1.cell? ⟨bb, 0, none⟩ = some (.int .i64 (kd : Int)) := by rw [hw1, hbb]; simp
  have k1 : w1.cell? ⟨bb, 1, none⟩ = some (.int .i64 (cn : Int)) := by rw [hw1, hbb]; simp
  have k2 : w1.cell? ⟨bb, 2, none⟩ = some (.int .i64 (pl : Int)) := by rw [hw1, hbb]; simp
  have k3 : w1.cell? ⟨bb, 3, none⟩ = some (.slice none 0 0) := by rw [hw1, hbb]; simp
  have HB1 := Hid.mk' hb1
  have hz1 : bb < w1.heap.size := World.block_lt_of_cell? _ _ k0
  go_enter Tryz.func106, Tryz.ntmps106
  go_upto_region 1 with fail
  rw [← hw1, ← hbb]
  clear hw1 hb1 hbb
  go_wp2_with fail
  refine (bsize_any _ _ _ _ 0 _ (by omega) w1).mono ?_
  rintro e w2 ⟨rfl, hb2⟩
  have HB2 := Hid.mk' (HB1.out.trans (hb2.mono HB1.out.size))
  obtain ⟨w3, hw3⟩ : ∃ w3, w3 = w2.alloc (.cells ((nul 64).map B8).toArray 5) := ⟨_, rfl⟩
  obtain ⟨g, hg⟩ : ∃ g, g = w2.heap.size := ⟨_, rfl⟩
  have hb3 : Below w1.heap.size w1 w3 := by rw [hw3]; exact hb2.alloc hb2.size _
  replace k0 := cell_on hb3 k0
  replace k1 := cell_on hb3 k1
  replace k2 := cell_on hb3 k2
  replace k3 := cell_on hb3 k3
  have HRw3 : Hid (w3.heap[g]? = some (.cells ((nul 64).map B8).toArray 5 (0, 0))) := by rw [hw3, hg]; exact heap_alloc_new w2 _
  have HLw3 : Hid ((nul 64).length = 64) := by show _ = _; simp [nul]
  have HBw3 := Hid.mk' (HB1.out.trans (hb3.mono HB1.out.size))
  have hwg : w.heap.size ≤ g := by rw [hg]; exact HB2.out.size
  have HBg : Hid (bb ∉ [g]) := by
    show _ ∉ _
    have := hb2.size
    simp
    omega
  go_upto_region 2 with fail
  rw [← hw3, ← hg]
  clear hw3 hg hb2 hb3 HB2 hmk HB1
  have hS := Hid.mk' (show (fun w' : World => w'.cell? ⟨bb, 0, none⟩ = some (.int .i64 (kd : Int))) w3 from k0)
  go_region_held3 (fun w' : World => w'.cell? ⟨bb, 0, none⟩ = some (.int .i64 (kd : Int))) (first | exact hS.out | assumption | go_keep)
    (first | (go_at_call 113; refine (putnum_any (w := (w3).drew) g 0 4 64 kd (nul 64) 5 HRw3.out (by rw [HLw3.out]; omega) (by omega) (by omega)).mono ?_; rintro e w4 ⟨rfl, hr, hF⟩; have HRw4 := Hid.mk' hr; have HFw4 := Hid.mk' (show Fr [g] w3 w4 from hF); have hS := Hid.mk' (show (fun w' : World => w'.cell? ⟨bb, 0, none⟩ = some (.int .i64 (kd : Int))) w4 from HFw4.out.cell k0 HBg.out); clear hr hF))
  have HLw4 : Hid ((pnL (nul 64) 0 4 kd 4).length = 64) := (pnL_length _ _ _ (by rw [HLw3.out]; omega) (by omega)).trans HLw3.out
  replace k0 := HFw4.out.cell k0 HBg.out
  replace k1 := HFw4.out.cell k1 HBg.out
  replace k2 := HFw4.out.cell k2 HBg.out
  replace k3 := HFw4.out.cell k3 HBg.out
  have HBw4 := Hid.mk' (HBw3.out.trans (HFw4.out.below HBw3.out.size (by simp; omega)))
  clear hS HRw3 HFw4
  go_upto_region 3 with fail
  have hS := Hid.mk' (show (fun w' : World => w'.cell? ⟨bb, 1, none⟩ = some (.int .i64 (cn : Int))) w4 from k1)
  go_region_held3 (fun w' : World => w'.cell? ⟨bb, 1, none⟩ = some (.int .i64 (cn : Int))) (first | exact hS.out | assumption | go_keep)
    (first | (go_at_call 113; refine (putnum_any (w := (w4).drew) g 4 4 60 cn (pnL (nul 64) 0 4 kd 4) 5 HRw4.out (by rw [HLw4.out]; omega) (by omega) (by omega)).mono ?_; rintro e w5 ⟨rfl, hr, hF⟩; have HRw5 := Hid.mk' hr; have HFw5 := Hid.mk' (show Fr [g] w4 w5 from hF); have hS := Hid.mk' (show (fun w' : World => w'.cell? ⟨bb, 1, none⟩ = some (.int .i64 (cn : Int))) w5 from HFw5.out.cell k1 HBg.out); clear hr hF))
  have HLw5 : Hid ((pnL (pnL (nul 64) 0 4 kd 4) 4 4 cn 4).length = 64) := (pnL_length _ _ _ (by rw [HLw4.out]; omega) (by omega)).trans HLw4.out
  replace k0 := HFw5.out.cell k0 HBg.out
  replace k1 := HFw5.out.cell k1 HBg.out
  replace k2 := HFw5.out.cell k2 HBg.out
  replace k3 := HFw5.out.cell k3 HBg.out
  have HBw5 := Hid.mk' (HBw4.out.trans (HFw5.out.below HBw4.out.size (by simp; omega)))
  clear hS HRw4 HFw5
  go_upto_region 4 with fail
  have hS := Hid.mk' (show (fun w' : World => w'.cell? ⟨bb, 2, none⟩ = some (.int .i64 (pl : Int))) w5 from k2)
  go_region_held3 (fun w' : World => w'.cell? ⟨bb, 2, none⟩ = some (.int .i64 (pl : Int))) (first | exact hS.out | assumption | go_keep)
    (first | (go_at_call 113; refine (putnum_any (w := (w5).drew) g 8 4 56 pl (pnL (pnL (nul 64) 0 4 kd 4) 4 4 cn 4) 5 HRw5.out (by rw [HLw5.out]; omega) (by omega) (by omega)).mono ?_; rintro e w6 ⟨rfl, hr, hF⟩; have HRw6 := Hid.mk' hr; have HFw6 := Hid.mk' (show Fr [g] w5 w6 from hF); have hS := Hid.mk' (show (fun w' : World => w'.cell? ⟨bb, 2, none⟩ = some (.int .i64 (pl : Int))) w6 from HFw6.out.cell k2 HBg.out); clear hr hF))
  have HLw6 : Hid ((pnL (pnL (pnL (nul 64) 0 4 kd 4) 4 4 cn 4) 8 4 pl 4).length = 64) := (pnL_length _ _ _ (by rw [HLw5.out]; omega) (by omega)).trans HLw5.out
  replace k0 := HFw6.out.cell k0 HBg.out
  replace k1 := HFw6.out.cell k1 HBg.out
  replace k2 := HFw6.out.cell k2 HBg.out
  replace k3 := HFw6.out.cell k3 HBg.out
  have HBw6 := Hid.mk' (HBw5.out.trans (HFw6.out.below HBw5.out.size (by simp; omega)))
  clear hS HRw5 HFw6
  go_upto_region 5 with fail
  have hS := Hid.mk' (show (fun w' : World => w'.cell? ⟨bb, 3, none⟩ = some (.slice none 0 0)) w6 from k3)
  go_region_held3 (fun w' : World => w'.cell? ⟨bb, 3, none⟩ = some (.slice none 0 0)) (first | exact hS.out | assumption | go_keep)
    (first | (go_at_call 113; refine (putnum_any (w := (w6).drew) g 12 4 52 0 (pnL (pnL (pnL (nul 64) 0 4 kd 4) 4 4 cn 4) 8 4 pl 4) 5 HRw6.out (by rw [HLw6.out]; omega) (by omega) (by omega)).mono ?_; rintro e w7 ⟨rfl, hr, hF⟩; have HRw7 := Hid.mk' hr; have HFw7 := Hid.mk' (show Fr [g] w6 w7 from hF); have hS := Hid.mk' (show (fun w' : World => w'.cell? ⟨bb, 3, none⟩ = some (.slice none 0 0)) w7 from HFw7.out.cell k3 HBg.out); clear hr hF))
  have HLw7 : Hid ((pnL (pnL (pnL (pnL (nul 64) 0 4 kd 4) 4 4 cn 4) 8 4 pl 4) 12 4 0 4).length = 64) := (pnL_length _ _ _ (by rw [HLw6.out]; omega) (by omega)).trans HLw6.out
  replace k0 := HFw7.out.cell k0 HBg.out
  replace k1 := HFw7.out.cell k1 HBg.out
  replace k2 := HFw7.out.cell k2 HBg.out
  replace k3 := HFw7.out.cell k3 HBg.out
  have HBw7 := Hid.mk' (HBw6.out.trans (HFw7.out.below HBw6.out.size (by simp; omega)))
  clear hS HRw6 HFw7
  rw [show (pnL (pnL (pnL (pnL (nul 64) 0 4 kd 4) 4 4 cn 4) 8 4 pl 4) 12 4 0 4) = enc4 kd cn pl from rfl] at HRw7
  clear HLw3 HLw4 HLw5 HLw6 HLw7 HBw3 HBw4 HBw5 HBw6 k0 k1 k2
  go_wp2
  go_loopw [3, 35] (fun v i wr => v = .slice (some ⟨g, 0, none⟩) 64 64 ∧ i = .int .i64 0 ∧ wr = w7) (fun _ _ _ => 0)
  case atStart => exact ⟨rfl, rfl, rfl⟩
  case round =>
    obtain ⟨rfl, rfl, hw⟩ := hrel
    obtain rfl := hw.symm
    clear hw
    have hs7 : Sees w7 (.slice (some ⟨g, 0, none⟩) 64 64) (enc4 kd cn pl) := by
      have h9 := sees_blk (o := 0) (n := 64) (cap := 64) HRw7.out (by rw [enc4_length]; omega) (by omega)
      rw [List.drop_zero, List.take_of_length_le (by rw [enc4_length]; omega)] at h9
      exact h9
    have HSm := Hid.mk' (sumof_any g 64 _ 64 (enc4_length kd cn pl) hs7 (enc4_lt kd cn pl) (by omega) (by omega) (by omega))
    clear hs7
    go_wp2_with fail
    refine HSm.out.mono ?_
    rintro e w8 ⟨s0, s1, s2, s3, s4, s5, s6, s7, rfl, h8, hb8⟩
    have H8 := Hid.mk' h8
    obtain ⟨w9, hw9⟩ : ∃ w9, w9 = w8.alloc (.cells #[.int .u8 (s0 : Int), .int .u8 (s1 : Int), .int .u8 (s2 : Int), .int .u8 (s3 : Int), .int .u8 (s4 : Int), .int .u8 (s5 : Int), .int .u8 (s6 : Int), .int .u8 (s7 : Int)] 156) := ⟨_, rfl⟩
    obtain ⟨sb, hsb⟩ : ∃ sb, sb = w8.heap.size := ⟨_, rfl⟩
    have hb9 : Below w7.heap.size w7 w9 := by rw [hw9]; exact hb8.alloc hb8.size _
    have HB9 := Hid.mk' (HBw7.out.trans (hb9.mono HBw7.out.size))
    have hr9 : w9.heap[g]? = some (.cells ((enc4 kd cn pl).map B8).toArray 5 (0, 0)) := row_on hb9 HRw7.out
    have hq9 : w9.heap[sb]? = some (.cells (([s0, s1, s2, s3, s4, s5, s6, s7] : List Nat).map B8).toArray 156 (0, 0)) := by rw [hw9, hsb]; exact heap_alloc_new w8 _
    have hs9 : Sees w9.drew (.slice (some ⟨sb, 0, none⟩) 8 8) [s0, s1, s2, s3, s4, s5, s6, s7] := (sees_blk (o := 0) (n := 8) (cap := 8) hq9 (by simp) (by omega)).drew
    obtain ⟨w10, hr10, hg10, hF10⟩ := cprow w9.drew g 16 48 48 5 (enc4 kd cn pl) [s0, s1, s2, s3, s4, s5, s6, s7] hr9 _ hs9 (by simp) (by rw [enc4_length]; simp)
    rw [show goInt (([s0, s1, s2, s3, s4, s5, s6, s7] : List Nat).length : Nat) = .int .i64 8 from rfl] at hr10
    rw [show ([s0, s1, s2, s3, s4, s5, s6, s7] : List Nat).length = 8 from rfl] at hg10
    have HG10 := Hid.mk' hg10
    have HF10 := Hid.mk' (show Fr [g] w9 w10 from hF10)
    go_upto_region 14 with fail
    rw [← hw9, ← hsb]
    clear hw9 hsb hb8 hb9 hr9 hq9 hs9 h8 hg10 hF10 HSm HRw7
    go_region_held3 (fun _ : World => True) (first | exact trivial | assumption | go_keep) (fail)
    obtain ⟨L9, hL9⟩ : ∃ L9, (enc4 kd cn pl).take 16 ++ ([s0, s1, s2, s3, s4, s5, s6, s7] ++ (enc4 kd cn pl).drop (16 + 8)) = L9 := ⟨_, rfl⟩
    have hl9 : L9.length = 64 := by rw [← hL9]; have := enc4_length kd cn pl; simp [this]
    have HE : Hid (encN kd cn pl = L9.set 63 165) := by show _ = _; unfold encN; rw [← hL9, ← H8.out]
    rw [hL9] at HG10
    clear hL9 hr10 H8
    have c0 : w10.cell? ⟨g, 63, none⟩ = some (B8 (L9.getD 63 0)) := by
      rw [cell_of_row w10 g 63 _ _ (0, 0) HG10.out]
      have hl2 : 63 < L9.length := by omega
      simp [List.getElem?_eq_getElem hl2, List.getD_eq_getElem?_getD]
    rw [show B8 (L9.getD 63 0) = .int .u8 ((L9.getD 63 0 : Nat) : Int) from rfl] at c0
    generalize L9.getD 63 0 = old at *
    have f0 : w10.frozen? ⟨g, 63, none⟩ = false := by simp [World.frozen?, HG10.out]
    have HRX : Hid ((w10.setCell ⟨g, 63, none⟩ (.int .u8 165)).heap[g]? = some (.cells ((encN kd cn pl).map B8).toArray 5 (0, 0))) := by
      show _ = _
      have h1 := heap_setCell_same w10 g 63 _ 5 (.int .u8 165) HG10.out
      rw [h1, List.setIfInBounds_toArray, HE.out, List.map_set]
      rfl
    have HFX : Hid (Fr [g] w9 (w10.setCell ⟨g, 63, none⟩ (.int .u8 165))) := HF10.out.set (by simp) _
    have HBX := Hid.mk' (HB9.out.trans (HFX.out.below HB9.out.size (by simp; omega)))
    clear hl9 HE HG10 HF10 HFX HB9
    go_wp2
    go_ret
    exact ⟨_, rfl, rw_row HRX.out (encN_length _ _ _) (by omega), hwg, HBX.out⟩
end Go.Proofs.YtchbheoapldkaaaGreat
