/-
  The pager's block; small functions; what is seen where there is no journal and no log: settle, look; inside, outside, refused, end, reserve, alone.
  Numbers as bytes; the contracts of putNumber, sumOf and encode of a batch without pages.
-/
import Derived.Test.YtjimhikfmccicaaGreatMg13
import Derived.Test.YtjimhikfmccicaaGreatMg14
namespace Go.Proofs.YtjimhikfmccicaaGreat
open Go.RowKit Go.Maps

def baseN : ByteArray := ⟨#[98, 97, 115, 101]⟩
def jourN : ByteArray := ⟨#[98, 97, 115, 101, 45, 106, 111, 117, 114, 110, 97, 108]⟩
def logN : ByteArray := ⟨#[98, 97, 115, 101, 45, 108, 111, 103]⟩
theorem row_on {w w' : World} {g : Nat} {o : Obj} (hb : Below w.heap.size w w') (h : w.heap[g]? = some o) : w'.heap[g]? = some o := (hb.block g (Array.getElem?_eq_some_iff.1 h).1).trans h
theorem nam_base : M.nam baseN = true := by decide
theorem nam_jour : M.nam jourN = true := by decide
theorem nam_log : M.nam logN = true := by decide
theorem Dz.len {w : World} {D n : Nat} {A : List AF} {F : List Nat} (h : Dz w D n A F) (t : ByteArray) : (seenA A t).length ≤ 4194304 := by
  obtain ⟨mb, dv, L, s, hD, hs, hr, rfl, rfl⟩ := h
  unfold seenA
  rw [nmA_fabs]
  split
  · rename_i hh
    have hi := (has_pos hr hh).1
    rw [names_length] at hi
    rw [fabs_getD]
    exact (hD.2.2.1 _ (getD_mem L hi)).2.2
  · simp
theorem Fr.set {fs : List Nat} {w w' : World} (h : Fr fs w w') {a : Addr} (ha : a.block ∈ fs) (u : Value) : Fr fs w (w'.setCell a u) := h.trans (Fr.of_set w' a u) (fun k hk => .inl (by simp at hk; rw [hk]; exact ha))

/-- A pager at block P. -/
def Pg (w : World) (P D : Nat) (md : Int) (lb : Nat) (c st vc ve : Int) (vp : Option Nat) (cnt : Int) (ow : Option Nat) (ma : Option Addr) (mn mc : Nat) (tl : Int) : Prop :=
  w.heap[P]? = some (.cells #[.pointer (some ⟨D, 0, none⟩), .int .i64 0, .int .i64 md, .pointer (some ⟨lb, 0, none⟩), .int .i64 c, .int .i64 st, .int .i64 vc, .int .i64 ve, .map vp, .int .i64 cnt, .map ow, .slice ma mn mc, .int .i64 tl] 97 (0, 0))
theorem Pg.ss {w : World} {P D : Nat} {md : Int} {lb : Nat} {c st vc ve : Int} {vp : Option Nat} {cnt : Int} {ow : Option Nat} {ma : Option Addr} {mn mc : Nat} {tl : Int} (h : Pg w P D md lb c st vc ve vp cnt ow ma mn mc tl) : Ss w P D := ⟨_, h, rfl, rfl⟩
theorem Pg.lt {w : World} {P D : Nat} {md : Int} {lb : Nat} {c st vc ve : Int} {vp : Option Nat} {cnt : Int} {ow : Option Nat} {ma : Option Addr} {mn mc : Nat} {tl : Int} (h : Pg w P D md lb c st vc ve vp cnt ow ma mn mc tl) : P < w.heap.size := (Array.getElem?_eq_some_iff.1 h).1
theorem Pg.fr {w w' : World} {P D : Nat} {md : Int} {lb : Nat} {c st vc ve : Int} {vp : Option Nat} {cnt : Int} {ow : Option Nat} {ma : Option Addr} {mn mc : Nat} {tl : Int} (h : Pg w P D md lb c st vc ve vp cnt ow ma mn mc tl) {fs : List Nat} (hF : Fr fs w w') (hn : P ∉ fs) : Pg w' P D md lb c st vc ve vp cnt ow ma mn mc tl := (hF.2.2 P h.lt hn).trans h
theorem Pg.on {w w' : World} {P D : Nat} {md : Int} {lb : Nat} {c st vc ve : Int} {vp : Option Nat} {cnt : Int} {ow : Option Nat} {ma : Option Addr} {mn mc : Nat} {tl : Int} (h : Pg w P D md lb c st vc ve vp cnt ow ma mn mc tl) (hb : Below w.heap.size w w') : Pg w' P D md lb c st vc ve vp cnt ow ma mn mc tl := h.fr (Fr.of_below (fs := []) hb) (by simp)
theorem Pg.frz {w : World} {P D : Nat} {md : Int} {lb : Nat} {c st vc ve : Int} {vp : Option Nat} {cnt : Int} {ow : Option Nat} {ma : Option Addr} {mn mc : Nat} {tl : Int} (h : Pg w P D md lb c st vc ve vp cnt ow ma mn mc tl) (i : Nat) : w.frozen? ⟨P, i, none⟩ = false := by
  have h1 : w.heap[P]? = some _ := h
  simp [World.frozen?, h1]
theorem Pg.c1 {w : World} {P D : Nat} {md : Int} {lb : Nat} {c st vc ve : Int} {vp : Option Nat} {cnt : Int} {ow : Option Nat} {ma : Option Addr} {mn mc : Nat} {tl : Int} (h : Pg w P D md lb c st vc ve vp cnt ow ma mn mc tl) : w.cell? ⟨P, 1, none⟩ = some (.int .i64 0) := (cell_of_row w P 1 _ _ (0, 0) h).trans rfl
theorem Pg.c2 {w : World} {P D : Nat} {md : Int} {lb : Nat} {c st vc ve : Int} {vp : Option Nat} {cnt : Int} {ow : Option Nat} {ma : Option Addr} {mn mc : Nat} {tl : Int} (h : Pg w P D md lb c st vc ve vp cnt ow ma mn mc tl) : w.cell? ⟨P, 2, none⟩ = some (.int .i64 md) := (cell_of_row w P 2 _ _ (0, 0) h).trans rfl
theorem Pg.c3 {w : World} {P D : Nat} {md : Int} {lb : Nat} {c st vc ve : Int} {vp : Option Nat} {cnt : Int} {ow : Option Nat} {ma : Option Addr} {mn mc : Nat} {tl : Int} (h : Pg w P D md lb c st vc ve vp cnt ow ma mn mc tl) : w.cell? ⟨P, 3, none⟩ = some (.pointer (some ⟨lb, 0, none⟩)) := (cell_of_row w P 3 _ _ (0, 0) h).trans rfl
theorem Pg.c4 {w : World} {P D : Nat} {md : Int} {lb : Nat} {c st vc ve : Int} {vp : Option Nat} {cnt : Int} {ow : Option Nat} {ma : Option Addr} {mn mc : Nat} {tl : Int} (h : Pg w P D md lb c st vc ve vp cnt ow ma mn mc tl) : w.cell? ⟨P, 4, none⟩ = some (.int .i64 c) := (cell_of_row w P 4 _ _ (0, 0) h).trans rfl
theorem Pg.c5 {w : World} {P D : Nat} {md : Int} {lb : Nat} {c st vc ve : Int} {vp : Option Nat} {cnt : Int} {ow : Option Nat} {ma : Option Addr} {mn mc : Nat} {tl : Int} (h : Pg w P D md lb c st vc ve vp cnt ow ma mn mc tl) : w.cell? ⟨P, 5, none⟩ = some (.int .i64 st) := (cell_of_row w P 5 _ _ (0, 0) h).trans rfl
theorem Pg.tx {w : World} {P D : Nat} {md : Int} {lb : Nat} {c st vc ve : Int} {vp : Option Nat} {cnt : Int} {ow : Option Nat} {ma : Option Addr} {mn mc : Nat} {tl : Int} (h : Pg w P D md lb c st vc ve vp cnt ow ma mn mc tl) : w.cell? ⟨P, 6, none⟩ = some (.int .i64 vc) ∧ w.cell? ⟨P, 7, none⟩ = some (.int .i64 ve) ∧ w.cell? ⟨P, 8, none⟩ = some (.map vp) ∧ w.cell? ⟨P, 9, none⟩ = some (.int .i64 cnt) ∧ w.cell? ⟨P, 10, none⟩ = some (.map ow) ∧ w.cell? ⟨P, 11, none⟩ = some (.slice ma mn mc) ∧ w.cell? ⟨P, 12, none⟩ = some (.int .i64 tl) :=
  ⟨(cell_of_row w P 6 _ _ (0, 0) h).trans rfl, (cell_of_row w P 7 _ _ (0, 0) h).trans rfl, (cell_of_row w P 8 _ _ (0, 0) h).trans rfl, (cell_of_row w P 9 _ _ (0, 0) h).trans rfl, (cell_of_row w P 10 _ _ (0, 0) h).trans rfl, (cell_of_row w P 11 _ _ (0, 0) h).trans rfl, (cell_of_row w P 12 _ _ (0, 0) h).trans rfl⟩

def isPg (n : Int) : Bool := decide (0 ≤ n ∧ n < 4096)
set_option maxRecDepth 100000 in
set_option maxHeartbeats 400000 in
theorem ispage_any (n : Int) (w : World) : Calls Tryz.prog 48 #[.int .i64 n] w fun e w' => e = .returned (.bool (isPg n)) ∧ w' = w := by
  by_cases h1 : 0 ≤ n
  · by_cases h2 : n < 4096
    · have HR : Hid (isPg n = true) := by show _ = _; unfold isPg; simp; omega
      go_enter Tryz.func48, Tryz.ntmps48
      go_wp2
      go_ret
      exact ⟨ret_bool HR.out.symm, rfl⟩
    · have HR : Hid (isPg n = false) := by show _ = _; unfold isPg; simp; omega
      go_enter Tryz.func48, Tryz.ntmps48
      go_wp2
      go_ret
      exact ⟨ret_bool HR.out.symm, rfl⟩
  · have HR : Hid (isPg n = false) := by show _ = _; unfold isPg; simp; omega
    go_enter Tryz.func48, Tryz.ntmps48
    go_wp2
    go_ret
    exact ⟨ret_bool HR.out.symm, rfl⟩

/-- The errors of calls that need a transaction, and of those that none may be open for. -/
def insE (st : Int) : Int := if st = 0 then 9 else if st = 1 then 11 else 0
def outE (st : Int) : Int := if st = 0 then 9 else if st = 1 then 0 else 11
set_option maxRecDepth 100000 in
set_option maxHeartbeats 400000 in
theorem inside_any {w : World} {P : Nat} {st : Int} (hst : st = 0 ∨ st = 1 ∨ st = 2 ∨ st = 3) (c5 : w.cell? ⟨P, 5, none⟩ = some (.int .i64 st)) : Calls Tryz.prog 33 #[.pointer (some ⟨P, 0, none⟩)] w fun e w' => e = .returned (.int .i64 (insE st)) ∧ w' = w := by
  rcases hst with rfl | rfl | rfl | rfl
  all_goals
    go_enter Tryz.func33, Tryz.ntmps33
    go_wp2
    go_ret
    exact ⟨rfl, rfl⟩
set_option maxRecDepth 100000 in
set_option maxHeartbeats 400000 in
theorem outside_any {w : World} {P : Nat} {st : Int} (hst : st = 0 ∨ st = 1 ∨ st = 2 ∨ st = 3) (c5 : w.cell? ⟨P, 5, none⟩ = some (.int .i64 st)) : Calls Tryz.prog 40 #[.pointer (some ⟨P, 0, none⟩)] w fun e w' => e = .returned (.int .i64 (outE st)) ∧ w' = w := by
  rcases hst with rfl | rfl | rfl | rfl
  all_goals
    go_enter Tryz.func40, Tryz.ntmps40
    go_wp2
    go_ret
    exact ⟨rfl, rfl⟩

set_option maxRecDepth 100000 in
set_option maxHeartbeats 400000 in
theorem refused_any {w : World} {P : Nat} (c1 : w.cell? ⟨P, 1, none⟩ = some (.int .i64 0)) : Calls Tryz.prog 43 #[.pointer (some ⟨P, 0, none⟩)] w fun e w' => e = .returned (.int .i64 0) ∧ w' = w := by
  go_enter Tryz.func43, Tryz.ntmps43
  go_wp2
  go_ret
  exact ⟨rfl, rfl⟩

set_option maxRecDepth 100000 in
set_option maxHeartbeats 400000 in
theorem settle_none {w : World} {P D n : Nat} {A : List AF} {F : List Nat} (h : Dz w D n A F) (hS : Ss w P D) (hj : M.has (nmA A) jourN = false) : Calls Tryz.prog 39 #[.pointer (some ⟨P, 0, none⟩)] w fun e w' => e = .returned (.tuple #[]) ∧ Below w.heap.size w w' := by
  have HT := Hid.mk' (there_any h hS jourN nam_jour)
  rw [hj] at HT
  clear h hS hj
  go_enter Tryz.func39, Tryz.ntmps39
  go_wp2_with fail
  refine HT.out.mono ?_
  rintro e w1 ⟨rfl, hb1⟩
  have HB := Hid.mk' hb1
  clear hb1
  go_wp2
  refine bodyPost_ret (results_none rfl _ _ _) rfl ?_
  exact ⟨rfl, HB.out⟩

set_option maxRecDepth 100000 in
set_option maxHeartbeats 400000 in
theorem fold_none {w : World} {P D n : Nat} {A : List AF} {F : List Nat} (h : Dz w D n A F) (hS : Ss w P D) (hj : M.has (nmA A) logN = false) : Calls Tryz.prog 47 #[.pointer (some ⟨P, 0, none⟩)] w fun e w' => e = .returned (.tuple #[]) ∧ Below w.heap.size w w' := by
  have HT := Hid.mk' (there_any h hS logN nam_log)
  rw [hj] at HT
  clear h hS hj
  go_enter Tryz.func47, Tryz.ntmps47
  go_wp2_with fail
  refine HT.out.mono ?_
  rintro e w1 ⟨rfl, hb1⟩
  have HB := Hid.mk' hb1
  clear hb1
  go_wp2
  refine bodyPost_ret (results_none rfl _ _ _) rfl ?_
  exact ⟨rfl, HB.out⟩

set_option maxRecDepth 100000 in
set_option maxHeartbeats 400000 in
theorem pagesof_any (n : Nat) (hn : n ≤ 4194304) (w : World) : Calls Tryz.prog 68 #[.int .i64 n] w fun e w' => e = .returned (.int .i64 (((n + 511) / 512 : Nat) : Int)) ∧ w' = w := by
  go_enter Tryz.func68, Tryz.ntmps68
  go_wp2
  go_ret
  exact ⟨ret_int (by omega), rfl⟩

set_option maxRecDepth 100000 in
set_option maxHeartbeats 400000 in
theorem decode_few (a : Option Addr) (n c : Nat) (hn : n < 64) (w : World) : Calls Tryz.prog 59 #[.slice a n c] w fun e w' => e = .returned (.agg #[.int .i64 0, .int .i64 0, .int .i64 0, .slice none 0 0]) ∧ Below w.heap.size w w' := by
  have h1 : (n : Int) < 64 := by omega
  go_enter Tryz.func59, Tryz.ntmps59
  go_wp2
  refine bodyPost_ret ?_ rfl ⟨rfl, ?_⟩
  · simp [results, Tryz.results59, go_sem]
  · exact (Below.refl _ _).alloc (Nat.le_refl _) _

/-- What is told of a disk without a log: how many pages base has, and no places. -/
def cntA (A : List AF) : Nat := min (((seenA A baseN).length + 511) / 512) 4096
set_option maxRecDepth 100000 in
set_option maxHeartbeats 1000000 in
theorem slook_none {w : World} {P D n : Nat} {A : List AF} {F : List Nat} (h : Dz w D n A F) (hS : Ss w P D) (hl : seenA A logN = []) : Calls Tryz.prog 42 #[.pointer (some ⟨P, 0, none⟩)] w fun e w' => ∃ pb, e = .returned (.agg #[.int .i64 (cntA A : Nat), .int .i64 0, .map (some pb)]) ∧ w'.heap[pb]? = some (.map #[] 0) ∧ w.heap.size ≤ pb ∧ Below w.heap.size w w' := by
  have HSz := Hid.mk' (fun (wx : World) (hb : Below w.heap.size w wx) => ssize_any (h.on hb) (hS.on hb) baseN nam_base)
  have hlen := h.len baseN
  have HRd := Hid.mk' (fun (wx : World) (hb : Below w.heap.size w wx) => sread_any (h.on hb) (hS.on hb) logN nam_log 0 4194304 (by omega) (by omega) [] (by rw [hl]; rfl))
  have hB : (⟨#[98, 97, 115, 101]⟩ : ByteArray) = baseN := rfl
  have hG : (⟨#[98, 97, 115, 101, 45, 108, 111, 103]⟩ : ByteArray) = logN := rfl
  have hmm := @run_makeMap Tryz.prog
  obtain ⟨bl, hbl⟩ : ∃ n, (seenA A baseN).length = n := ⟨_, rfl⟩
  rw [hbl] at HSz hlen
  obtain ⟨q, hq⟩ : ∃ q, (bl + 511) / 512 = q := ⟨_, rfl⟩
  have hmin : (if (4096 : Int) < (q : Int) then (4096 : Int) else (q : Int)) = (cntA A : Int) := by
    unfold cntA
    rw [hbl, hq]
    split <;> omega
  generalize cntA A = m at *
  have HPo := Hid.mk' (fun (wx : World) => pagesof_any bl hlen wx)
  rw [hq] at HPo
  clear h hS hl hbl hq
  go_enter Tryz.func42, Tryz.ntmps42
  go_wp2_with fail
  go_step3
  go_wp2_with fail
  refine (HSz.out _ ((Below.refl _ _).alloc (Nat.le_refl _) _)).mono ?_
  rintro e w1 ⟨rfl, hb1⟩
  have HB1 : Hid (Below w.heap.size w w1) := ((Below.refl _ _).alloc (Nat.le_refl _) _).trans (hb1.mono (by simp))
  have HZ1 : Hid (w1.heap[w.heap.size]? = some (.cells #[.int .i64 0, .int .i64 0, .map none] 89 (0, 0))) := row_on hb1 (heap_alloc_new w _)
  have hz1 : w.heap.size < w1.heap.size := Nat.lt_of_lt_of_le (by simp) hb1.size
  clear hb1
  go_wp2_with fail
  refine (HPo.out w1).mono ?_
  rintro e w2 ⟨rfl, hw⟩
  obtain rfl := hw.symm
  clear hw
  obtain ⟨w3, hw3⟩ : ∃ w3, w3 = (w1.alloc (.map #[] 0)).alloc (.cells #[.int .i64 (m : Int), .int .i64 0, .map (some w1.heap.size)] 89) := ⟨_, rfl⟩
  have HB3 : Hid (Below w.heap.size w w3) := by rw [hw3]; exact (HB1.out.alloc HB1.out.size _).alloc (by simpa using Nat.le_succ_of_le HB1.out.size) _
  have HM3 : Hid (w3.heap[w1.heap.size]? = some (.map #[] 0)) := by
    show _ = _
    rw [hw3, Below.heap_alloc _ _ _ (by simp)]
    exact heap_alloc_new w1 _
  have k0 : w3.cell? ⟨w1.heap.size + 1, 0, none⟩ = some (.int .i64 (m : Int)) := by
    rw [hw3, show w1.heap.size + 1 = (w1.alloc (.map #[] 0)).heap.size by simp, World.cell?_alloc_at _ _ _ _ rfl]; rfl
  have k1 : w3.cell? ⟨w1.heap.size + 1, 1, none⟩ = some (.int .i64 0) := by
    rw [hw3, show w1.heap.size + 1 = (w1.alloc (.map #[] 0)).heap.size by simp, World.cell?_alloc_at _ _ _ _ rfl]; rfl
  have k2 : w3.cell? ⟨w1.heap.size + 1, 2, none⟩ = some (.map (some w1.heap.size)) := by
    rw [hw3, show w1.heap.size + 1 = (w1.alloc (.map #[] 0)).heap.size by simp, World.cell?_alloc_at _ _ _ _ rfl]; rfl
  have HZ3 : Hid (w3.heap[w.heap.size]? = some (.cells #[.int .i64 0, .int .i64 0, .map none] 89 (0, 0))) := by
    rw [hw3]
    show _ = _
    rw [Below.heap_alloc _ _ _ (by simp; omega), Below.heap_alloc _ _ _ hz1]
    exact HZ1.out
  go_upto_region 2 with fail
  rw [← hw3]
  clear hw3
  generalize w1.heap.size + 1 = vb at *
  have hpb : w.heap.size ≤ w1.heap.size := HB1.out.size
  generalize w1.heap.size = pb at *
  go_wp2_with fail
  refine (HRd.out w3 HB3.out).mono ?_
  rintro e w4 ⟨ra, rc, rfl, hR4, _, hb4⟩
  replace k0 := cell_on hb4 k0
  replace k1 := cell_on hb4 k1
  replace k2 := cell_on hb4 k2
  have HB4 : Hid (Below w.heap.size w w4) := HB3.out.trans (hb4.mono HB3.out.size)
  have HM4 : Hid (w4.heap[pb]? = some (.map #[] 0)) := row_on hb4 HM3.out
  have HZ4 := Hid.mk' (row_on hb4 HZ3.out)
  clear hb4 HM3 HB3 hR4 HZ3 HZ1
  go_wp2_with fail
  go_step3
  go_wp2_with fail
  refine (decode_few _ _ _ (by simp) w4).mono ?_
  rintro e w5 ⟨rfl, hb5⟩
  replace k0 := cell_on hb5 k0
  replace k1 := cell_on hb5 k1
  replace k2 := cell_on hb5 k2
  have HB5 : Hid (Below w.heap.size w w5) := HB4.out.trans (hb5.mono HB4.out.size)
  have HM5 : Hid (w5.heap[pb]? = some (.map #[] 0)) := row_on hb5 HM4.out
  have HZ5 := Hid.mk' (row_on hb5 HZ4.out)
  clear hb5 HM4 HB4 HZ4
  obtain ⟨w6, hw6⟩ : ∃ w6, w6 = w5.alloc (.cells #[.int .i64 0, .int .i64 0, .int .i64 0, .slice none 0 0] 120) := ⟨_, rfl⟩
  have hb6 : Below w5.heap.size w5 w6 := by rw [hw6]; exact (Below.refl _ _).alloc (Nat.le_refl _) _
  have j0 : w6.cell? ⟨w5.heap.size, 0, none⟩ = some (.int .i64 0) := by rw [hw6]; simp
  go_upto_region 4 with fail
  rw [← hw6]
  clear hw6
  replace k0 := cell_on hb6 k0
  replace k1 := cell_on hb6 k1
  replace k2 := cell_on hb6 k2
  have HB6 : Hid (Below w.heap.size w w6) := HB5.out.trans (hb6.mono HB5.out.size)
  have HM6 : Hid (w6.heap[pb]? = some (.map #[] 0)) := row_on hb6 HM5.out
  have HZ6 := Hid.mk' (row_on hb6 HZ5.out)
  have z0 : w6.cell? ⟨w.heap.size, 0, none⟩ = some (.int .i64 0) := (cell_of_row _ _ 0 _ _ (0, 0) HZ6.out).trans rfl
  have z1 : w6.cell? ⟨w.heap.size, 1, none⟩ = some (.int .i64 0) := (cell_of_row _ _ 1 _ _ (0, 0) HZ6.out).trans rfl
  have z2 : w6.cell? ⟨w.heap.size, 2, none⟩ = some (.map none) := (cell_of_row _ _ 2 _ _ (0, 0) HZ6.out).trans rfl
  have f0 : w6.frozen? ⟨w.heap.size, 0, none⟩ = false := by have h1 := HZ6.out; simp [World.frozen?, h1]
  have f1 : w6.frozen? ⟨w.heap.size, 1, none⟩ = false := by have h1 := HZ6.out; simp [World.frozen?, h1]
  have f2 : w6.frozen? ⟨w.heap.size, 2, none⟩ = false := by have h1 := HZ6.out; simp [World.frozen?, h1]
  clear hb6 HM5 HB5 HZ5
  generalize w5.heap.size = bb at *
  have hpz : pb ≠ w.heap.size := fun e => by
    have h1 := HM6.out
    rw [e, HZ6.out] at h1
    cases h1
  go_wp2_with fail
  rw [Exit.noGoto_ret]
  refine bodyPost_ret ?_ rfl ⟨pb, rfl, ?_, hpb, ?_⟩
  · simp [results, Tryz.results42, go_sem, z0, z1, z2]
  · rw [Below.heap_setCell _ _ _ _ hpz, Below.heap_setCell _ _ _ _ hpz, Below.heap_setCell _ _ _ _ hpz]
    exact HM6.out
  · exact ((HB6.out.setCell (p := ⟨w.heap.size, 0, none⟩) (Nat.le_refl _) _).setCell (p := ⟨w.heap.size, 1, none⟩) (Nat.le_refl _) _).setCell (p := ⟨w.heap.size, 2, none⟩) (Nat.le_refl _) _

/-- k bytes of a number, the highest first. -/
def be (k N : Nat) : List Nat := (List.range k).map fun i => N / 256 ^ (k - 1 - i) % 256
theorem be_length (k N : Nat) : (be k N).length = k := by simp [be]
theorem be_lt (k N : Nat) : ∀ x ∈ be k N, x < 256 := by
  intro x hx
  obtain ⟨i, _, rfl⟩ := List.mem_map.1 hx
  exact Nat.mod_lt _ (by omega)
/-- A number laid into bytes from o on, its last c bytes. -/
def pnL (l : List Nat) (o k N c : Nat) : List Nat := l.take (o + (k - c)) ++ ((be k N).drop (k - c) ++ l.drop (o + k))
theorem pnL_zero (l : List Nat) (o k N : Nat) : pnL l o k N 0 = l := by
  unfold pnL
  rw [Nat.sub_zero, List.drop_of_length_le (by rw [be_length]; exact Nat.le_refl _), List.nil_append, List.take_append_drop]
theorem pnL_length (l : List Nat) {o k : Nat} (N c : Nat) (h : o + k ≤ l.length) (hc : c ≤ k) : (pnL l o k N c).length = l.length := by
  unfold pnL
  simp [be_length]
  omega
theorem pnL_succ (l : List Nat) {o k : Nat} (N c : Nat) (h : o + k ≤ l.length) (hc : c < k) : (pnL l o k N c).set (o + (k - 1 - c)) (N / 256 ^ c % 256) = pnL l o k N (c + 1) := by
  unfold pnL
  have e1 : k - c = (k - 1 - c) + 1 := by omega
  have e2 : k - (c + 1) = k - 1 - c := by omega
  rw [e2, e1, ← Nat.add_assoc, List.take_succ_eq_append_getElem (by omega), List.append_assoc, List.set_append_right _ _ (by simp; omega)]
  have e3 : (be k N).drop (k - 1 - c) = (N / 256 ^ c % 256) :: (be k N).drop (k - 1 - c + 1) := by
    rw [List.drop_eq_getElem_cons (by rw [be_length]; omega)]
    congr 1
    simp only [be, List.getElem_map, List.getElem_range]
    rw [show k - 1 - (k - 1 - c) = c by omega]
  rw [e3]
  have e4 : o + (k - 1 - c) - (l.take (o + (k - 1 - c))).length = 0 := by simp; omega
  rw [e4]
  rfl

set_option maxRecDepth 100000 in
set_option maxHeartbeats 1000000 in
theorem putnum_any {w : World} (g o k cap N : Nat) (l : List Nat) (t : TypeId) (hg : w.heap[g]? = some (.cells (l.map B8).toArray t (0, 0))) (ho : o + k ≤ l.length) (hk : k ≤ 1000) (hN : N ≤ 9223372036854775807) :
    Calls Tryz.prog 114 #[.slice (some ⟨g, o, none⟩) k cap, .int .i64 (N : Int)] w fun e w' => e = .returned (.tuple #[]) ∧ w'.heap[g]? = some (.cells ((pnL l o k N k).map B8).toArray t (0, 0)) ∧ Fr [g] w w' := by
  have H0 : Hid (w.heap[g]? = some (.cells ((pnL l o k N 0).map B8).toArray t (0, 0))) := by rw [pnL_zero l o k N]; exact hg
  clear hg
  go_enter Tryz.func114, Tryz.ntmps114
  go_wp2
  go_loopw [1, 4] (fun n i wr => ∃ c : Nat, c ≤ k ∧ n = .int .i64 ((N / 256 ^ c : Nat) : Int) ∧ i = .int .i64 ((k : Int) - 1 - (c : Int)) ∧ wr.heap[g]? = some (.cells ((pnL l o k N c).map B8).toArray t (0, 0)) ∧ Fr [g] w wr) (fun _ i _ => (intOf i + 1).toNat)
  case atStart => exact ⟨0, by omega, by simp, by simp, H0.out, Fr.refl _ _⟩
  case round =>
    clear H0
    obtain ⟨c, hc, rfl, rfl, hg, hF⟩ := hrel
    have HG := Hid.mk' hg
    have HF := Hid.mk' hF
    obtain ⟨x, hx⟩ : ∃ x, N / 256 ^ c = x := ⟨_, rfl⟩
    have hxN : x ≤ 9223372036854775807 := by rw [← hx]; exact Nat.le_trans (Nat.div_le_self _ _) hN
    have HX := Hid.mk' hx
    rw [hx]
    by_cases hlt : c < k
    · obtain ⟨j, hj⟩ : ∃ j : Nat, (k : Int) - 1 - (c : Int) = (j : Int) := ⟨k - 1 - c, by omega⟩
      have hjk : j = k - 1 - c := by omega
      have hlen := pnL_length l N c ho hc
      have c0 : wr.cell? ⟨g, o + j, none⟩ = some (B8 ((pnL l o k N c).getD (o + j) 0)) := by
        rw [cell_of_row wr g (o + j) _ t (0, 0) hg]
        have hl2 : o + j < (pnL l o k N c).length := by omega
        simp [List.getElem?_eq_getElem hl2, List.getD_eq_getElem?_getD]
      rw [show B8 ((pnL l o k N c).getD (o + j) 0) = .int .u8 (((pnL l o k N c).getD (o + j) 0 : Nat) : Int) from rfl] at c0
      generalize (pnL l o k N c).getD (o + j) 0 = old at *
      have f0 : wr.frozen? ⟨g, o + j, none⟩ = false := by simp [World.frozen?, hg]
      have hw8 : IntKind.u8.wrap (x : Int) = ((x % 256 : Nat) : Int) := by
        simp only [IntKind.wrap, IntKind.bits, IntKind.signed]
        simp
      have HS : Hid ((wr.setCell ⟨g, o + j, none⟩ (.int .u8 ((x % 256 : Nat) : Int))).heap[g]? = some (.cells ((pnL l o k N (c + 1)).map B8).toArray t (0, 0))) := by
        show _ = _
        have h1 := heap_setCell_same wr g (o + j) _ t (.int .u8 ((x % 256 : Nat) : Int)) HG.out
        rw [h1, List.setIfInBounds_toArray, ← pnL_succ l N c ho hlt, List.map_set, HX.out, hjk]
        rfl
      have HF2 : Hid (Fr [g] w (wr.setCell ⟨g, o + j, none⟩ (.int .u8 ((x % 256 : Nat) : Int)))) := HF.out.set (by simp) _
      have j0 : (0 : Int) ≤ (j : Int) := by omega
      have jk : (j : Int) < (k : Int) := by omega
      rw [hj]
      have HJ := Hid.mk' hj
      clear hg hF hx hj hlen hjk
      have he : ((x % 256 : Nat) : Int) = (x : Int) % 256 := by omega
      rw [he] at HS HF2
      go_wp2
      go_roundw
      case rel =>
        refine ⟨c + 1, by omega, ?_, ?_, HS.out, HF2.out⟩
        · rw [Nat.pow_succ, ← Nat.div_div_eq_div_mul, HX.out]
          rfl
        · have := HJ.out
          congr 1
          omega
      case measure => simp [intOf]
    · obtain rfl : c = k := by omega
      have hneg : ¬ ((c : Int) - 1 - (c : Int) ≥ 0) := by omega
      clear hg hF
      go_wp2
      go_end0
      exact ⟨rfl, HG.out, HF.out⟩

/-- Bytes copied into a row of bytes. -/
theorem cprow (W : World) (g o n cap : Nat) (t : TypeId) (L l : List Nat) (hg : W.heap[g]? = some (.cells (L.map B8).toArray t (0, 0))) (v : Value) (hv : Sees W v l) (hln : l.length ≤ n) (ho : o + l.length ≤ L.length) :
    ∃ w', (Builtin.copy_ #[54, 54] 3 #[.slice (some ⟨g, o, none⟩) n cap, v]).run Tryz.prog W = .ok (goInt l.length) w' ∧ w'.heap[g]? = some (.cells ((L.take o ++ (l ++ L.drop (o + l.length))).map B8).toArray t (0, 0)) ∧ Fr [g] W w' := by
  obtain ⟨⟨a, ca, rfl, ha⟩, hma⟩ := hv
  by_cases h0 : 1 ≤ l.length
  · obtain ⟨b, ob, rfl, hc⟩ := ha h0
    have hr := run_copy_row (P := Tryz.prog) W 54 54 3 5 g o n cap ⟨b, ob, none⟩ l.length ca (L.map B8).toArray t (l.map B8) Tryz.underlying54 size_u8 hg (by rw [List.length_map]; exact (Nat.min_eq_left hln).symm) (fun j u hu => by
      have hlt : j < l.length := by simpa using (List.getElem?_eq_some_iff.1 hu).1
      rw [Addr.add_lit, hc j hlt]
      simp [List.getElem?_eq_getElem hlt, B8] at hu
      simp [List.getD_eq_getElem?_getD, hlt, ← hu]) (by simp; omega) (one_B8 l)
    rw [List.length_map] at hr
    refine ⟨_, hr, ?_, Fr.of_setRow W g _⟩
    rw [setRow_heap W g _ _ t _ hg]
    simp [List.map_append, List.map_take, List.map_drop]
  · have hn : l = [] := List.eq_nil_of_length_eq_zero (by omega)
    subst hn
    refine ⟨W, run_copy_none (P := Tryz.prog) _ 54 54 3 5 _ _ n cap 0 ca Tryz.underlying54 size_u8 (Nat.zero_min _), ?_, Fr.refl _ _⟩
    rw [hg]
    simp
end Go.Proofs.YtjimhikfmccicaaGreat
