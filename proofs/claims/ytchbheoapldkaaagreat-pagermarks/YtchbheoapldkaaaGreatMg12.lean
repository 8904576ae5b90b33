/-
  The contract of Read of a page that the transaction has not written, and that lies in base.
  The contracts of a committed page wherever it lies, and of Read.
  Calls that are malformed; the transaction's write; Write.
  The transaction's write without marks; Write.
  The contract of a transaction's pages: its own pages, their numbers rising.
-/
import Derived.Test.YtchbheoapldkaaaGreatTq
import Derived.Test.YtchbheoapldkaaaGreatMg2
import Derived.Test.YtchbheoapldkaaaGreatKs
import Derived.Test.YtchbheoapldkaaaGreatMg6
namespace Go.Proofs.YtchbheoapldkaaaGreat
open Go.RowKit Go.Maps Go.Sort Go.Shelf

set_option maxRecDepth 100000 in
set_option maxHeartbeats 1000000 in
theorem read_base {w : World} {P D n : Nat} {A : List AF} {F : List Nat} {md : Int} {lb : Nat} {c st vc ve : Int} {pb : Nat} {cnt : Int} {ob : Nat} {ma : Option Addr} {mn mc : Nat} {tl : Int} {E Ep : List (Nat × Value)} (h : Dz w D n A F) (hP : Pg w P D md lb c st vc ve (some pb) cnt (some ob) ma mn mc tl) (hst : st = 2 ∨ st = 3) (hMp : Mo w pb Ep) (k : Nat) (hk : k ≤ 4095) (hEp : Ep.find? (fun e => decide (e.1 = k)) = none) (hM : Mo w ob E) (hE : E.find? (fun e => decide (e.1 = k)) = none) :
    Calls Tryz.prog 20 #[.pointer (some ⟨P, 0, none⟩), .int .i64 (k : Int)] w fun e w' => ∃ g, e = .returned (.tuple #[.slice (some ⟨g, 0, none⟩) 512 512, .int .i64 0]) ∧ Rw w' (.slice (some ⟨g, 0, none⟩) 512 512) (pageB (seenA A baseN) k) ∧ w.heap.size ≤ g ∧ Below w.heap.size w w' := by
  have HI := Hid.mk' (inside_any (P := P) (st := st) (by omega) hP.c5)
  rw [show insE st = 0 by unfold insE; rw [if_neg (by omega), if_neg (by omega)]] at HI
  have HN := Hid.mk' (ispage_any (k : Int) w)
  rw [show isPg (k : Int) = true by unfold isPg; simp; omega] at HN
  obtain ⟨x6, x7, x8, _, x10, _, _⟩ := hP.tx
  have hgt := hM.get true (k := k) (by omega)
  rw [hE] at hgt
  simp only [if_true] at hgt
  have HPb := Hid.mk' (fun (wx : World) (hb : Below w.heap.size w wx) => page_base (h.on hb) (hP.on hb).ss vc ve pb (hMp.on hb) k hk hEp)
  have HR := Hid.mk' (fun (wx : World) (hb : Below w.heap.size w wx) => refused_any (P := P) (hP.on hb).c1)
  clear h hM hE hMp hEp hst
  go_enter Tryz.func20, Tryz.ntmps20
  go_wp2_with fail
  refine HI.out.mono ?_
  rintro e w1 ⟨rfl, hw⟩
  obtain rfl := hw.symm
  clear hw HI
  go_wp2_with fail
  refine HN.out.mono ?_
  rintro e w1 ⟨rfl, hw⟩
  obtain rfl := hw.symm
  clear hw HN
  go_upto_region 9 with fail
  have hS := Hid.mk' (show (fun w' : World => w'.cell? ⟨P, 6, none⟩ = some (.int .i64 vc) ∧ w'.cell? ⟨P, 7, none⟩ = some (.int .i64 ve) ∧ w'.cell? ⟨P, 8, none⟩ = some (.map (some pb))) w from ⟨x6, x7, x8⟩)
  go_region_held3 (fun w' : World => w'.cell? ⟨P, 6, none⟩ = some (.int .i64 vc) ∧ w'.cell? ⟨P, 7, none⟩ = some (.int .i64 ve) ∧ w'.cell? ⟨P, 8, none⟩ = some (.map (some pb))) (first | exact hS.out | assumption | go_keep)
    (first | (go_at_call 47; refine (HPb.out w.drew (Below.drew (Below.refl _ _))).mono ?_; rintro e w4 ⟨g, rfl, hr, hg, hb⟩; have HRr := Hid.mk' hr; have HBr := Hid.mk' (show Below w.heap.size w w4 from (Below.drew (Below.refl _ _)).trans hb); have HGr := Hid.mk' (show w.heap.size ≤ g from hg); have hS := Hid.mk' (show (fun w' : World => w'.cell? ⟨P, 6, none⟩ = some (.int .i64 vc) ∧ w'.cell? ⟨P, 7, none⟩ = some (.int .i64 ve) ∧ w'.cell? ⟨P, 8, none⟩ = some (.map (some pb))) w4 from ⟨cell_on HBr.out x6, cell_on HBr.out x7, cell_on HBr.out x8⟩); clear hr hg hb))
  clear hS HPb hgt
  go_wp2_with fail
  refine (HR.out w4 HBr.out).mono ?_
  rintro e w5 ⟨rfl, hw⟩
  obtain rfl := hw.symm
  clear hw HR
  go_wp2
  go_ret2
  exact ⟨_, rfl, HRr.out, HGr.out, HBr.out⟩
end Go.Proofs.YtchbheoapldkaaaGreat
namespace Go.Proofs.YtchbheoapldkaaaGreat
open Go.RowKit Go.Maps Go.Sort Go.Shelf

/-- The page that lies at p in bytes; a map of places; page k of what is committed. -/
def pageAt (s : List Nat) (p : Nat) : List Nat := (s.drop p).take 512 ++ (nul 512).drop ((s.drop p).take 512).length
def plE (Pl : List (Nat × Nat)) : List (Nat × Value) := Pl.map fun e => (e.1, .int .i64 (e.2 : Int))
def pageV (b l : List Nat) (Pl : List (Nat × Nat)) (k : Nat) : List Nat := match Pl.find? (fun e => decide (e.1 = k)) with
  | some e => pageAt l e.2
  | none => pageAt b (k * 512)
theorem pageAt_length (s : List Nat) (p : Nat) : (pageAt s p).length = 512 := by
  unfold pageAt
  rw [List.length_append, List.length_drop, nul_length, List.length_take]
  omega
theorem pageV_length (b l : List Nat) (Pl : List (Nat × Nat)) (k : Nat) : (pageV b l Pl k).length = 512 := by
  unfold pageV
  split <;> exact pageAt_length _ _
theorem find_plE (Pl : List (Nat × Nat)) (k : Nat) : (plE Pl).find? (fun e => decide (e.1 = k)) = (Pl.find? (fun e => decide (e.1 = k))).map fun e => (e.1, .int .i64 (e.2 : Int)) := by
  unfold plE
  rw [List.find?_map]
  rfl

set_option maxRecDepth 100000 in
set_option maxHeartbeats 1000000 in
theorem spage_any {w : World} {P D n : Nat} {A : List AF} {F : List Nat} (h : Dz w D n A F) (hS : Ss w P D) (vc ve : Int) (pb : Nat) {Pl : List (Nat × Nat)} (hM : Mo w pb (plE Pl)) (hPl : ∀ e ∈ Pl, e.2 ≤ 4194304) (k : Nat) (hk : k ≤ 4095) :
    Calls Tryz.prog 47 #[.pointer (some ⟨P, 0, none⟩), .agg #[.int .i64 vc, .int .i64 ve, .map (some pb)], .int .i64 (k : Int)] w fun e w' => ∃ g, e = .returned (.slice (some ⟨g, 0, none⟩) 512 512) ∧ Rw w' (.slice (some ⟨g, 0, none⟩) 512 512) (pageV (seenA A baseN) (seenA A logN) Pl k) ∧ w.heap.size ≤ g ∧ Below w.heap.size w w' := by
  cases hf : Pl.find? (fun e => decide (e.1 = k)) with
  | none =>
    have := page_base h hS vc ve pb hM k hk (by rw [find_plE, hf]; rfl)
    unfold pageV
    rw [hf]
    exact this
  | some e0 =>
    have hp4 : e0.2 ≤ 4194304 := hPl e0 (List.mem_of_find?_eq_some hf)
    have HZ := Hid.mk' h
    have HS := Hid.mk' hS
    obtain ⟨w1, hw1⟩ : ∃ w1, w1 = w.alloc (.cells #[.int .i64 vc, .int .i64 ve, .map (some pb)] 91) := ⟨_, rfl⟩
    obtain ⟨bb, hbb⟩ : ∃ bb, bb = w.heap.size := ⟨_, rfl⟩
    have HB1 : Hid (Below w.heap.size w w1) := by rw [hw1]; exact (Below.refl _ _).alloc (Nat.le_refl _) _
    have k2 : w1.cell? ⟨bb, 2, none⟩ = some (.map (some pb)) := by rw [hw1, hbb]; simp
    have hgt := (hM.on HB1.out).getI true (k := k) (by omega)
    rw [find_plE, hf] at hgt
    simp only [Option.map_some, if_true] at hgt
    have HP0 : Hid (pageV (seenA A baseN) (seenA A logN) Pl k = pageAt (seenA A logN) e0.2) := by show _ = _; unfold pageV; rw [hf]
    generalize e0.2 = p at *
    have hmk := make_512 w1
    obtain ⟨w2, hw2⟩ : ∃ w2, w2 = w1.alloc (.cells ((nul 512).map B8).toArray 5) := ⟨_, rfl⟩
    obtain ⟨g, hg⟩ : ∃ g, g = w1.heap.size := ⟨_, rfl⟩
    have HB2 : Hid (Below w.heap.size w w2) := by rw [hw2]; exact HB1.out.alloc HB1.out.size _
    have HR2 : Hid (w2.heap[g]? = some (.cells ((nul 512).map B8).toArray 5 (0, 0))) := by rw [hw2, hg]; exact heap_alloc_new w1 _
    have hwg : w.heap.size ≤ g := by rw [hg]; exact HB1.out.size
    rw [← hw2, ← hg] at hmk
    obtain ⟨s, hs⟩ : ∃ s, ((seenA A logN).drop p).take 512 = s := ⟨_, rfl⟩
    have hs5 : s.length ≤ 512 := by rw [← hs, List.length_take]; omega
    have HRd := Hid.mk' (sread_any (HZ.out.on HB2.out) (HS.out.on HB2.out) logN nam_log p 512 hp4 (by omega) s hs)
    have HP : Hid (pageV (seenA A baseN) (seenA A logN) Pl k = s ++ (nul 512).drop s.length) := by rw [HP0.out]; show _ = _; unfold pageAt; rw [hs]
    clear h hS hM hs hf hPl HP0
    go_enter Tryz.func47, Tryz.ntmps47
    go_upto_region 1 with fail
    rw [← hw1, ← hbb]
    clear hw1 hbb hw2 hg
    go_wp2_with fail
    refine HRd.out.mono ?_
    rintro e w3 ⟨a, c, rfl, hr, ho, hb3⟩
    obtain ⟨w4, hr4, hg4, hF4⟩ := cprow w3 g 0 512 512 5 (nul 512) s (row_on hb3 HR2.out) _ hr.sees hs5 (by rw [nul_length]; omega)
    rw [List.take_zero, List.nil_append, Nat.zero_add, ← HP.out] at hg4
    have HG4 := Hid.mk' hg4
    have HB3 := Hid.mk' (HB2.out.trans (hb3.mono HB2.out.size))
    have HB4 := Hid.mk' (HB3.out.trans (hF4.below HB3.out.size (by simp; omega)))
    clear hr ho hb3 hg4 hF4 HRd hgt hmk
    go_wp2
    go_ret
    exact ⟨_, rfl, rw_row HG4.out (pageV_length _ _ _ _) (by omega), hwg, HB4.out⟩

set_option maxRecDepth 100000 in
set_option maxHeartbeats 1000000 in
theorem read_own {w : World} {P D : Nat} {md : Int} {lb : Nat} {c st vc ve : Int} {vp : Option Nat} {cnt : Int} {ob : Nat} {ma : Option Addr} {mn mc : Nat} {tl : Int} {E : List (Nat × Value)} (hP : Pg w P D md lb c st vc ve vp cnt (some ob) ma mn mc tl) (hst : st = 2 ∨ st = 3) (k : Nat) (hk : k ≤ 4095) (hM : Mo w ob E) (e0 : Nat × Value) (hE : E.find? (fun e => decide (e.1 = k)) = some e0) (l : List Nat) (hs : Sees w e0.2 l) (hl : l.length = 512) :
    Calls Tryz.prog 20 #[.pointer (some ⟨P, 0, none⟩), .int .i64 (k : Int)] w fun e w' => ∃ na nc, e = .returned (.tuple #[.slice na 512 nc, .int .i64 0]) ∧ Rw w' (.slice na 512 nc) l ∧ (∀ x, (Value.slice na 512 nc).ownBlock = some x → w.heap.size ≤ x) ∧ Below w.heap.size w w' := by
  have HI := Hid.mk' (inside_any (P := P) (st := st) (by omega) hP.c5)
  rw [show insE st = 0 by unfold insE; rw [if_neg (by omega), if_neg (by omega)]] at HI
  have HN := Hid.mk' (ispage_any (k : Int) w)
  rw [show isPg (k : Int) = true by unfold isPg; simp; omega] at HN
  obtain ⟨_, _, _, _, x10, _, _⟩ := hP.tx
  have hgt := hM.get true (k := k) (by omega)
  rw [hE] at hgt
  simp only [if_true] at hgt
  have HCl := Hid.mk' (clone_any e0.2 l w hs (by omega))
  generalize e0.2 = u at *
  have HL := Hid.mk' hl
  obtain ⟨⟨ua, uc, rfl, _⟩, _⟩ := hs
  clear hM hE hst hP hl
  go_enter Tryz.func20, Tryz.ntmps20
  go_wp2_with fail
  refine HI.out.mono ?_
  rintro e w1 ⟨rfl, hw⟩
  obtain rfl := hw.symm
  clear hw HI
  go_wp2_with fail
  refine HN.out.mono ?_
  rintro e w1 ⟨rfl, hw⟩
  obtain rfl := hw.symm
  clear hw HN
  go_wp2_with fail
  refine HCl.out.mono ?_
  rintro e w1 ⟨v', rfl, hr, hb, ho⟩
  obtain ⟨na, nc, rfl, _, _⟩ := hr.slice
  rw [HL.out] at hr ho ⊢
  have HR := Hid.mk' hr
  have HB := Hid.mk' hb
  have HO := Hid.mk' ho
  clear hr hb ho HCl hgt
  go_wp2
  go_ret2
  exact ⟨na, nc, rfl, HR.out, HO.out, HB.out⟩
end Go.Proofs.YtchbheoapldkaaaGreat
namespace Go.Proofs.YtchbheoapldkaaaGreat
open Go.RowKit Go.Maps

set_option maxRecDepth 100000 in
set_option maxHeartbeats 400000 in
theorem read_bad' {w : World} {P : Nat} {st : Int} (hst : st = 2 ∨ st = 3) (c5 : w.cell? ⟨P, 5, none⟩ = some (.int .i64 st)) {n : Int} (hn : isPg n = false) : Calls Tryz.prog 20 #[.pointer (some ⟨P, 0, none⟩), .int .i64 n] w fun e w' => e = .returned (.tuple #[.slice none 0 0, .int .i64 1]) ∧ w' = w := by
  have HI := Hid.mk' (inside_any (P := P) (st := st) (by omega) c5)
  rw [show insE st = 0 by unfold insE; rw [if_neg (by omega), if_neg (by omega)]] at HI
  have HN := Hid.mk' (ispage_any n w)
  rw [hn] at HN
  clear hn hst
  go_enter Tryz.func20, Tryz.ntmps20
  go_wp2_with fail
  refine HI.out.mono ?_
  rintro e w1 ⟨rfl, hw⟩
  obtain rfl := hw.symm
  clear hw HI
  go_wp2_with fail
  refine HN.out.mono ?_
  rintro e w1 ⟨rfl, hw⟩
  obtain rfl := hw.symm
  clear hw HN
  go_wp2
  go_ret2
  exact ⟨rfl, rfl⟩

set_option maxRecDepth 100000 in
set_option maxHeartbeats 400000 in
theorem write_bad' {w : World} {P : Nat} {st : Int} (hst : st = 2 ∨ st = 3) (c5 : w.cell? ⟨P, 5, none⟩ = some (.int .i64 st)) {n : Int} (a : Option Addr) (m c : Nat) (hn : isPg n = false ∨ m ≠ 512) : Calls Tryz.prog 14 #[.pointer (some ⟨P, 0, none⟩), .int .i64 n, .slice a m c] w fun e w' => e = .returned (.int .i64 1) ∧ w' = w := by
  have HI := Hid.mk' (inside_any (P := P) (st := st) (by omega) c5)
  rw [show insE st = 0 by unfold insE; rw [if_neg (by omega), if_neg (by omega)]] at HI
  have HN := Hid.mk' (ispage_any n w)
  cases hb : isPg n with
  | false =>
    rw [hb] at HN
    clear hn hst hb
    go_enter Tryz.func14, Tryz.ntmps14
    go_wp2_with fail
    refine HI.out.mono ?_
    rintro e w1 ⟨rfl, hw⟩
    obtain rfl := hw.symm
    clear hw HI
    go_wp2_with fail
    refine HN.out.mono ?_
    rintro e w1 ⟨rfl, hw⟩
    obtain rfl := hw.symm
    clear hw HN
    go_wp2
    go_ret
    exact ⟨rfl, rfl⟩
  | true =>
    rw [hb] at HN
    have h5 : ((m : Int) != 512) = true := by
      rw [bne_iff_ne]
      rcases hn with h | h
      · rw [h] at hb; cases hb
      · omega
    clear hn hst hb
    go_enter Tryz.func14, Tryz.ntmps14
    go_wp2_with fail
    refine HI.out.mono ?_
    rintro e w1 ⟨rfl, hw⟩
    obtain rfl := hw.symm
    clear hw HI
    go_wp2_with fail
    refine HN.out.mono ?_
    rintro e w1 ⟨rfl, hw⟩
    obtain rfl := hw.symm
    clear hw HN
    go_wp2
    go_ret
    exact ⟨rfl, rfl⟩

set_option maxRecDepth 100000 in
set_option maxHeartbeats 400000 in
theorem bsearch_nil (k : Int) (fv : Value) (w : World) : Calls Tryz.prog 70 #[.slice none 0 0, .int .i64 k, fv] w fun e w' => e = .returned (.tuple #[.int .i64 0, .bool false]) ∧ w' = w := by
  go_enter Tryz.func70, Tryz.ntmps70
  go_wp2
  go_loopw [9, 10] (fun i j wr => i = .int .i64 0 ∧ j = .int .i64 0 ∧ wr = w) (fun _ _ _ => 0)
  case atStart => exact ⟨rfl, rfl, rfl⟩
  case round =>
    obtain ⟨rfl, rfl, hw⟩ := hrel
    obtain rfl := hw.symm
    clear hw
    go_wp2
    go_ret2
    exact ⟨rfl, rfl⟩

set_option maxRecDepth 100000 in
set_option maxHeartbeats 400000 in
theorem tback_nil {w : World} {P : Nat} (x11 : w.cell? ⟨P, 11, none⟩ = some (.slice none 0 0)) (k : Int) : Calls Tryz.prog 46 #[.pointer (some ⟨P, 6, none⟩), .int .i64 k] w fun e w' => e = .returned (.bool false) ∧ Below w.heap.size w w' := by
  have hlt := World.block_lt_of_cell? _ _ x11
  have HB : Hid (Below w.heap.size w (w.alloc (.cells #[.pointer (some ⟨P, 6, none⟩)] 128))) := (Below.refl _ _).alloc (Nat.le_refl _) _
  go_enter Tryz.func46, Tryz.ntmps46
  go_wp2_with fail
  refine (bsearch_nil _ _ _).mono ?_
  rintro e w1 ⟨rfl, hw⟩
  subst hw
  go_wp2
  go_ret
  exact ⟨rfl, HB.out⟩

set_option maxRecDepth 100000 in
set_option maxHeartbeats 400000 in
theorem back_bad {w : World} {P : Nat} {st : Int} (hst : st = 2 ∨ st = 3) (c5 : w.cell? ⟨P, 5, none⟩ = some (.int .i64 st)) (x11 : w.cell? ⟨P, 11, none⟩ = some (.slice none 0 0)) (k : Int) : Calls Tryz.prog 18 #[.pointer (some ⟨P, 0, none⟩), .int .i64 k] w fun e w' => e = .returned (.int .i64 1) ∧ Below w.heap.size w w' := by
  have HI := Hid.mk' (inside_any (P := P) (st := st) (by omega) c5)
  rw [show insE st = 0 by unfold insE; rw [if_neg (by omega), if_neg (by omega)]] at HI
  have HK := Hid.mk' (tback_nil x11 k)
  clear hst
  go_enter Tryz.func18, Tryz.ntmps18
  go_wp2_with fail
  refine HI.out.mono ?_
  rintro e w1 ⟨rfl, hw⟩
  obtain rfl := hw.symm
  clear hw HI
  go_wp2_with fail
  refine HK.out.mono ?_
  rintro e w1 ⟨rfl, hb⟩
  have HB := Hid.mk' hb
  clear hb HK
  go_wp2
  go_ret
  exact ⟨rfl, HB.out⟩
end Go.Proofs.YtchbheoapldkaaaGreat
namespace Go.Proofs.YtchbheoapldkaaaGreat
open Go.RowKit Go.Maps

/-- What stands behind the map's turn in the transaction's write. -/
def TwP (w : World) (P D : Nat) (md : Int) (lb : Nat) (c st vc ve : Int) (vp : Option Nat) (cnt : Int) (ob : Nat) (ma : Option Addr) (mn mc : Nat) (tl : Int) (E : List (Nat × Value)) (n : Nat) (l : List Nat) (na : Option Addr) (nc : Nat) (w' : World) : Prop :=
  Pg w' P D md lb c st vc ve vp cnt (some ob) ma mn mc tl ∧ Mo w' ob (putE n (.slice na 512 nc) E) ∧ Rw w' (.slice na 512 nc) l ∧ (∀ k, (Value.slice na 512 nc).ownBlock = some k → w.heap.size ≤ k) ∧ Fr [ob] w w'
theorem Pg.recnt {w : World} {P D : Nat} {md : Int} {lb : Nat} {c st vc ve : Int} {vp : Option Nat} {cnt : Int} {ow : Option Nat} {ma : Option Addr} {mn mc : Nat} {tl : Int} (h : Pg w P D md lb c st vc ve vp cnt ow ma mn mc tl) (cnt' : Int) :
    Pg (w.setCell ⟨P, 9, none⟩ (.int .i64 cnt')) P D md lb c st vc ve vp cnt' ow ma mn mc tl ∧ Fr [P] w (w.setCell ⟨P, 9, none⟩ (.int .i64 cnt')) :=
  ⟨by have h1 := heap_setCell_same w P 9 _ _ (.int .i64 cnt') h; simp only [List.setIfInBounds_toArray, List.set_cons_succ, List.set_cons_zero] at h1; exact h1, Fr.of_set w ⟨P, 9, none⟩ _⟩

set_option maxRecDepth 100000 in
set_option maxHeartbeats 1000000 in
theorem twrite_ok {w : World} {P D : Nat} {md : Int} {lb : Nat} {c st vc ve : Int} {vp : Option Nat} {cnt : Int} {ob : Nat} {ma : Option Addr} {mc : Nat} {tl : Int} {E : List (Nat × Value)} (hP : Pg w P D md lb c st vc ve vp cnt (some ob) ma 0 mc tl) (hM : Mo w ob E) (hPo : P ≠ ob) (n : Nat) (hn : n ≤ 4095) (hE : E.length ≤ 4900) (a : Option Addr) (ac : Nat) (l : List Nat) (hl : l.length = 512) (hs : Sees w (.slice a 512 ac) l) (m : Int) (hm : max cnt ((n : Int) + 1) = m) :
    Calls Tryz.prog 44 #[.pointer (some ⟨P, 6, none⟩), .int .i64 (n : Int), .slice a 512 ac] w fun e w' => ∃ na nc, e = .returned (.tuple #[]) ∧ Pg w' P D md lb c st vc ve vp m (some ob) ma 0 mc tl ∧ Mo w' ob (putE n (.slice na 512 nc) E) ∧ Rw w' (.slice na 512 nc) l ∧ (∀ k, (Value.slice na 512 nc).ownBlock = some k → w.heap.size ≤ k) ∧ Fr [P, ob] w w' := by
  have hn1 : n ≤ 100000 := by omega
  have HE : Hid (∀ v, (putE n v E).length ≤ 5000) := (fun v => by
    unfold putE
    rw [insN_length]
    have := List.length_filter_le (fun e : Nat × Value => !decide (e.1 = n)) E
    omega)
  have HCl := Hid.mk' (clone_any (.slice a 512 ac) l w.drew (hs.drew) (by omega))
  have HLl := Hid.mk' hl
  have HP := Hid.mk' hP
  have HM := Hid.mk' hM
  obtain ⟨_, _, _, x9, x10, x11, _⟩ := hP.tx
  have HLt : Hid (P < w.heap.size) := hP.lt
  clear hP hM hl hs hE
  go_enter Tryz.func44, Tryz.ntmps44
  go_upto_region 5 with fail
  go_cut [] from 44 to 50 (fun wx => ∃ na nc, TwP w P D md lb c st vc ve vp cnt ob ma 0 mc tl E n l na nc wx)
  case first =>
    refine wp_region_held_drew (S := (fun w' : World => w'.cell? ⟨P, 10, none⟩ = some (.map (some ob)))) (by kernel_rfl) (x10) (fun hS => ?_)
    refine wpAnyH_take (i := 0) (v := ?_) rfl (by kernel_rfl) (by kernel_rfl) (by kernel_rfl) (fun _ _ _ h => h) (Or.inl ⟨by rfl, ?_⟩) hS ?_
    rotate_left
    · (intro w hSw; (try dsimp only at hSw); go_simp; try (with_reducible rfl))
    try simp only [Act.put, List.setIfInBounds_toArray]
    refine wpAnyH_take (i := 1) (v := ?_) rfl (by kernel_rfl) (by kernel_rfl) (by kernel_rfl) (fun _ _ _ h => h) (Or.inl ⟨by rfl, ?_⟩) hS ?_
    rotate_left
    · (intro w hSw; (try dsimp only at hSw); go_simp; try (with_reducible rfl))
    try simp only [Act.put]
    refine wpAnyH_take (i := 2) (v := ?_) rfl (by kernel_rfl) (by kernel_rfl) (by kernel_rfl) (fun _ _ _ h => h) (Or.inl ⟨by rfl, ?_⟩) hS ?_
    rotate_left
    · (intro w hSw; (try dsimp only at hSw); go_simp; try (with_reducible rfl))
    try simp only [Act.put]
    refine wpAnyH_take (i := 3) (v := ?_) rfl (by kernel_rfl) (by kernel_rfl) (by kernel_rfl) (fun _ _ _ h => h) (Or.inl ⟨by rfl, ?_⟩) hS ?_
    rotate_left
    · (intro w hSw; (try dsimp only at hSw); go_simp; try (with_reducible rfl))
    try simp only [Act.put]
    refine wpAnyH_take (i := 4) (v := ?_) rfl (by kernel_rfl) (by kernel_rfl) (by kernel_rfl) (fun _ _ _ h => h) (Or.inl ⟨by rfl, ?_⟩) hS ?_
    rotate_left
    · (intro w hSw; (try dsimp only at hSw); go_simp; try (with_reducible rfl))
    try simp only [Act.put]
    refine wpAnyH_take (i := 5) (v := ?_) rfl (by kernel_rfl) (by kernel_rfl) (by kernel_rfl) (fun _ _ _ h => h) (Or.inl ⟨by rfl, ?_⟩) hS ?_
    rotate_left
    · (intro w hSw; (try dsimp only at hSw); go_simp; try (with_reducible rfl))
    try simp only [Act.put]
    refine wpAnyH_ready (rs := [6]) (by kernel_rfl) (by simp) ?_
    refine (AllReadyH.cons rfl (fun K hK => ?_) AllReadyH.nil)
    go_simp
    go_wp2_with (go_at_call 34; refine HCl.out.mono ?_; rintro e' w1 ⟨v1, rfl, r1, hb1, n1⟩; obtain ⟨na, nc, rfl, _, _⟩ := r1.slice; rw [HLl.out] at r1 n1 ⊢; replace hb1 : Below w.heap.size w w1 := (Below.refl w.heap.size w).drew.trans hb1; obtain ⟨w2, hr2, hM2, hF2⟩ := (HM.out.on hb1).put hn1 (.slice na 512 nc) (HE.out _))
    refine hK.out _ _ (cell_on hb1 x10) (fun hS => ?_)
    clear hK K
    try simp only [Act.put, List.setIfInBounds_toArray, List.set_cons_zero, List.set_cons_succ]
    refine wpAnyH_ready (rs := [7]) (by kernel_rfl) (by simp) ?_
    refine (AllReadyH.cons rfl (fun K hK => ?_) AllReadyH.nil)
    go_simp
    refine hK.out _ _ (hF2.cell (cell_on hb1 x10) (by simpa using hPo)) (fun hS => ?_)
    clear hK K
    try simp only [Act.put, List.setIfInBounds_toArray, List.set_cons_zero, List.set_cons_succ]
    refine wpAnyH_done (by kernel_rfl) ?_ _
    have HX : Hid (TwP w P D md lb c st vc ve vp cnt ob ma 0 mc tl E n l na nc w2) := ⟨(HP.out.on hb1).fr hF2 (by simpa using hPo), hM2, hF2.rw r1 (fun k hk hm => by simp at hm; have h8 : w.heap.size ≤ k := n1 k hk; have := HM.out.lt; omega), fun k hk => n1 k hk, (Fr.of_below hb1).trans hF2 (fun k hk => .inl hk)⟩
    go_wp2_with fail
    go_meet
    exact ⟨na, nc, HX.out⟩
  case rest =>
    obtain ⟨na, nc, hX⟩ := hcut
    have HX := Hid.mk' hX
    have HC := Hid.mk' (hX.1.recnt m)
    obtain ⟨_, _, _, y9, _, _, _⟩ := hX.1.tx
    have fz := hX.1.frz 9
    clear hX x9 x10 x11 HCl HP HM
    go_wp2
    go_end0
    refine ⟨na, nc, rfl, HC.out.1, HX.out.2.1.fr HC.out.2 (by simpa using hPo.symm), HC.out.2.rw HX.out.2.2.1 (fun k hk hm => ?_), HX.out.2.2.2.1, (HX.out.2.2.2.2.mono (fun k hk => .inl (by simp at hk; simp [hk]))).trans HC.out.2 (fun k hk => .inl (by simp at hk; simp [hk]))⟩
    simp at hm
    have := HX.out.2.2.2.1 k hk
    have := HLt.out
    omega

set_option maxRecDepth 100000 in
set_option maxHeartbeats 1000000 in
theorem write_ok' {w : World} {P D : Nat} {md : Int} {lb : Nat} {c st vc ve : Int} {vp : Option Nat} {cnt : Int} {ob : Nat} {ma : Option Addr} {mc : Nat} {tl : Int} {E : List (Nat × Value)} {lv : M.Lv} (hP : Pg w P D md lb c st vc ve vp cnt (some ob) ma 0 mc tl) (hst : st = 2 ∨ st = 3) (hT : Tb w lb 110 lv) (hq : (lv.up c 2).1 = 0) (hne : P ≠ lb) (hM : Mo w ob E) (hPo : P ≠ ob) (hlo : lb ≠ ob) (n : Nat) (hn : n ≤ 4095) (hE : E.length ≤ 4900) (a : Option Addr) (ac : Nat) (l : List Nat) (hl : l.length = 512) (hs : Sees w (.slice a 512 ac) l) (ha : ∀ x, a = some x → x.block ≠ P ∧ x.block ≠ lb) (m : Int) (hm : max cnt ((n : Int) + 1) = m) :
    Calls Tryz.prog 14 #[.pointer (some ⟨P, 0, none⟩), .int .i64 (n : Int), .slice a 512 ac] w fun e w' => ∃ na nc, e = .returned (.int .i64 0) ∧ Pg w' P D md lb c 3 vc ve vp m (some ob) ma 0 mc tl ∧ Tb w' lb 110 (lv.up c 2).2 ∧ Mo w' ob (putE n (.slice na 512 nc) E) ∧ Rw w' (.slice na 512 nc) l ∧ (∀ k, (Value.slice na 512 nc).ownBlock = some k → w.heap.size ≤ k) ∧ Fr [P, lb, ob] w w' := by
  have HI := Hid.mk' (inside_any (P := P) (st := st) (by omega) hP.c5)
  rw [show insE st = 0 by unfold insE; rw [if_neg (by omega), if_neg (by omega)]] at HI
  have HN := Hid.mk' (ispage_any (n : Int) w)
  rw [show isPg (n : Int) = true by unfold isPg; simp; omega] at HN
  have HR := Hid.mk' (reserve_ok hP hT hne hq)
  have HM := Hid.mk' hM
  have HS := Hid.mk' hs
  have HA := Hid.mk' ha
  have HLl := Hid.mk' hl
  clear hP hT hq hM hs ha hst hl
  go_enter Tryz.func14, Tryz.ntmps14
  go_wp2_with fail
  refine HI.out.mono ?_
  rintro e w1 ⟨rfl, hw⟩
  obtain rfl := hw.symm
  clear hw HI
  go_wp2_with fail
  refine HN.out.mono ?_
  rintro e w1 ⟨rfl, hw⟩
  obtain rfl := hw.symm
  clear hw HN
  go_wp2_with fail
  refine HR.out.mono ?_
  rintro e w2 ⟨rfl, hP2, hT2, hF2⟩
  have HT2 := Hid.mk' hT2
  have HF2 := Hid.mk' hF2
  have hfs : ob ∉ [P, lb] := by simp; exact ⟨hPo.symm, hlo.symm⟩
  have HTw := Hid.mk' (twrite_ok hP2 (HM.out.fr hF2 hfs) hPo n hn hE a ac l HLl.out (hF2.sees HS.out (fun x _ _ e hm => by
    obtain ⟨rfl, _, _⟩ := by simpa using e
    have := HA.out x rfl
    simp at hm
    omega)) m hm)
  clear hP2 hT2 hF2 HR hfs
  go_wp2_with fail
  refine HTw.out.mono ?_
  rintro e w3 ⟨na, nc, rfl, h1, h2, h3, h4, h5⟩
  have H1 := Hid.mk' h1
  have H2 := Hid.mk' h2
  have H3 := Hid.mk' h3
  have H4 := Hid.mk' h4
  have H5 := Hid.mk' h5
  clear h1 h2 h3 h4 h5 HTw
  go_wp2
  go_ret
  refine ⟨na, nc, rfl, H1.out, HT2.out.fr H5.out (by simp; exact ⟨hne.symm, hlo⟩), H2.out, H3.out, fun k hk => Nat.le_trans HF2.out.2.1 (H4.out k hk), (HF2.out.mono (fun k hk => .inl (by simp at hk; rcases hk with h | h <;> simp [h]))).trans H5.out (fun k hk => .inl (by simp at hk; rcases hk with h | h <;> simp [h]))⟩
end Go.Proofs.YtchbheoapldkaaaGreat
namespace Go.Proofs.YtchbheoapldkaaaGreat
open Go.RowKit Go.Maps Go.Sort Go.Shelf

/-- The cells of pages with their numbers. -/
def lfC (E : List (Nat × Value)) : List Value := E.flatMap fun e => [.int .i64 (e.1 : Int), e.2]
theorem lfC_length (E : List (Nat × Value)) : (lfC E).length = E.length * 2 := by
  unfold lfC
  induction E with
  | nil => rfl
  | cons x E ih => rw [List.flatMap_cons, List.length_append, ih]; simp; omega
theorem lfC_succ (E : List (Nat × Value)) (k : Nat) (hk : k < E.length) : lfC (E.take (k + 1)) = lfC (E.take k) ++ [.int .i64 ((E[k]).1 : Int), (E[k]).2] := by
  rw [List.take_succ_eq_append_getElem hk]
  unfold lfC
  rw [List.flatMap_append]
  simp
theorem lfC_at (E : List (Nat × Value)) (j : Nat) (hj : j < E.length) : (lfC E)[j * 2]? = some (.int .i64 ((E[j]).1 : Int)) ∧ (lfC E)[j * 2 + 1]? = some (E[j]).2 := by
  induction E generalizing j with
  | nil => simp at hj
  | cons x E ih =>
    unfold lfC
    rw [List.flatMap_cons]
    cases j with
    | zero => simp
    | succ j =>
      have := ih j (by simpa using hj)
      unfold lfC at this
      rw [show (j + 1) * 2 = j * 2 + 1 + 1 by omega]
      simpa using this
theorem Tryz.info127 : (Tryz.prog.info? 127).map (fun i => (i.zero, i.size, i.bytes)) = some (some (.agg #[.int .i64 0, .slice none 0 0]), 2, 32) := by kernel_rfl
theorem src_leaf (w : World) (n : Int) (u : Value) (h1 : u.oneCell' = true) : Src Tryz.prog 2 117 (.slice (some ⟨w.heap.size, 0, none⟩) 1 1) 1 [.int .i64 n, u] (w.alloc (.cells #[.int .i64 n, u] 127)) := by
  refine Src.ofSlice _ Tryz.underlying117 ⟨w.heap.size, 0, none⟩ 1 1 _ rfl (fun j u' hj => ?_) (fun u' hu => ?_)
  · match j, hj with
    | 0, hj => simp at hj; subst hj; simp [Addr.add]
    | 1, hj => simp at hj; subst hj; simp [Addr.add]
  · simp at hu
    rcases hu with rfl | rfl
    · rfl
    · exact h1
theorem append_leaf (w : World) (base : Nat) (v : Value) (k : Nat) (xs : List Value) (n : Int) (u : Value) (h1 : u.oneCell' = true) (hown : w.ownsRow base 127 2 v k xs) (hb : k ≤ 10000) (hbase : base ≤ w.heap.size) :
    ∃ v' w', (Builtin.append_ #[117, 117] 117 #[v, .slice (some ⟨w.heap.size, 0, none⟩) 1 1]).run Tryz.prog (w.alloc (.cells #[.int .i64 n, u] 127)) = .ok v' w' ∧ w'.ownsRow base 127 2 v' (k + 1) (xs ++ [.int .i64 n, u]) ∧ (w.alloc (.cells #[.int .i64 n, u] 127)).grownBy w' v.ownBlock := by
  obtain ⟨i0, hi, hz0, hz1, hz2⟩ := info_parts Tryz.info127
  obtain ⟨v', w', h1, h2, h3, _⟩ := run_append_src (P := Tryz.prog) (w.alloc (.cells #[.int .i64 n, u] 127)) base 117 117 117 127 i0 _ 2 32 Tryz.underlying117 hi hz0 hz1 hz2 rfl v k xs (hown.alloc _) _ 1 _ (src_leaf w n u h1) (by unfold maxLen; omega) (by omega) (by simp; omega)
  exact ⟨v', w', h1, h2, h3⟩
theorem owns_ints {w : World} {base n : Nat} {v : Value} {xs : List Int} (h : w.ownsRow base 3 1 v n (xs.map encZ)) :
    ∃ a c, v = .slice a n c ∧ n ≤ c ∧ c ≤ 9223372036854775807 ∧ (1 ≤ n → ∃ g, a = some ⟨g, 0, none⟩ ∧ ∀ j (hj : j < xs.length), w.cell? ⟨g, j, none⟩ = some (.int .i64 xs[j])) := by
  rcases h.2 with ⟨rfl, h0⟩ | ⟨g, cap, cur, rfl, _, hg, hn, hm, _⟩
  · exact ⟨none, 0, by rw [h0], by omega, by omega, fun h1 => by omega⟩
  · refine ⟨some ⟨g, 0, none⟩, cap, rfl, hn, by unfold maxLen at hm; omega, fun _ => ⟨g, rfl, fun j hj => ?_⟩⟩
    have ha : ∀ q, (⟨g, 0, none⟩ : Addr).add q = ⟨g, q, none⟩ := fun q => by unfold Addr.add; split <;> simp_all
    have k1 := h.cells (g := g) rfl j (encZ xs[j]) (by simp [hj])
    rw [ha] at k1
    exact k1
theorem owns_low {w : World} {base b2 : Nat} {e : TypeId} {size : Nat} {v : Value} {n : Nat} {xs : List Value} (h : w.ownsRow base e size v n xs) (hb : b2 ≤ base) : w.ownsRow b2 e size v n xs := by
  refine ⟨h.1, h.2.imp id ?_⟩
  rintro ⟨g, cap, cur, hv, hg, hr⟩
  exact ⟨g, cap, cur, hv, Nat.le_trans hb hg, hr⟩
/-- The keys rise. -/
def risesE (E : List (Nat × Value)) : Prop := E.Pairwise (fun a b => a.1 < b.1)
theorem find_rise {E : List (Nat × Value)} (h : risesE E) (k : Nat) (hk : k < E.length) : E.find? (fun e => decide (e.1 = (E[k]).1)) = some E[k] := by
  rw [List.find?_eq_some_iff_getElem]
  refine ⟨by simp, k, hk, rfl, fun j hj => ?_⟩
  have := List.pairwise_iff_getElem.1 h j k (by omega) hk hj
  simp
  omega

set_option maxRecDepth 100000 in
set_option maxHeartbeats 1000000 in
theorem tpages_any {w : World} {P ob : Nat} {E : List (Nat × Value)} (hM : Mo w ob E) (x10 : w.cell? ⟨P, 10, none⟩ = some (.map (some ob))) (hE : risesE E) (hk : ∀ e ∈ E, e.1 ≤ 100000 ∧ ∃ a n c, e.2 = .slice a n c) (hl : E.length ≤ 4900) :
    Calls Tryz.prog 77 #[.pointer (some ⟨P, 6, none⟩)] w fun e w' => ∃ v', e = .returned v' ∧ w'.ownsRow w.heap.size 127 2 v' E.length (lfC E) ∧ Below w.heap.size w w' := by
  have HM := Hid.mk' hM
  have HE := Hid.mk' hE
  have HK := Hid.mk' hk
  have HSo := Hid.mk' (sorted_any ob 5000 (ents E) heldR w hM (by rw [size_ents]; omega))
  clear hM hE hk
  go_enter Tryz.func77, Tryz.ntmps77
  go_wp2_with fail
  refine (keys_any _ _).mono ?_
  rintro e w1 ⟨rfl, rfl⟩
  go_wp2_with fail
  refine HSo.out.mono ?_
  rintro e w2 ⟨v, ss, rfl, hp, hrow, _, hb⟩
  rw [intKeys_ents] at hp
  have hsk := sort_is hp (by
    rw [List.pairwise_map]
    exact HE.out.imp (fun h => by omega))
  have hln : ss.length = E.length := by rw [hp.length_eq, List.length_map]
  rw [hsk, hln] at hrow
  obtain ⟨a, c, rfl, hc, hcm, hcs⟩ := owns_ints hrow
  have HC := Hid.mk' hcs
  have HB2 : Hid (Below w.heap.size w w2) := ((Below.refl _ _).alloc (Nat.le_refl _) _).trans (hb.mono (by omega))
  clear hp hsk hln hrow hcs hb HSo
  go_wp2
  go_loopw [3, 13] (fun t i wr => ∃ k : Nat, k ≤ E.length ∧ i = .int .i64 k ∧ wr.ownsRow w2.heap.size 127 2 t k (lfC (E.take k)) ∧ Below w2.heap.size w2 wr) (fun _ i _ => E.length - (intOf i).toNat)
  case atStart => exact ⟨0, by omega, rfl, World.ownsRow_nil _ _ _ _, Below.refl _ _⟩
  case round =>
    obtain ⟨k, hk, rfl, hown, hbr⟩ := hrel
    have HBr := Hid.mk' (HB2.out.trans (hbr.mono HB2.out.size))
    have hsz := HBr.out.size
    by_cases hlt : k < E.length
    · obtain ⟨g, rfl, hrw⟩ := HC.out (by omega)
      have r0 := hrw k (by rw [List.length_map]; exact hlt)
      rw [List.getElem_map] at r0
      replace r0 := cell_on hbr r0
      have hle := (HK.out _ (List.getElem_mem hlt)).1
      obtain ⟨sa, sn, sc, hsl⟩ := (HK.out _ (List.getElem_mem hlt)).2
      have hgt := (HM.out.on HBr.out).get false hle
      rw [find_rise HE.out k hlt] at hgt
      simp only [Bool.false_eq_true, if_false] at hgt
      have HT := Hid.mk' (lfC_succ E k hlt)
      obtain ⟨kn, hkn⟩ : ∃ kn, (E[k]).1 = kn := ⟨_, rfl⟩
      rw [hkn, hsl] at HT
      rw [hkn, hsl] at hgt
      rw [hkn] at r0
      have x10' := cell_on HBr.out x10
      have HO := Hid.mk' (append_leaf wr w2.heap.size _ k _ (kn : Int) (.slice sa sn sc) rfl hown (by omega) hbr.size)
      have HLt := Hid.mk' (fun q hq => (hown.lt q hq).1)
      clear hrw hown hsl hkn hle
      go_wp2_with (at_builtin; refine wpList_append_run rfl _ _ 117 117 rfl _ _ rfl rfl HO.out ?_; rintro v5 w5 ⟨ho5, hg5⟩)
      go_roundw
      case rel =>
        refine ⟨k + 1, by omega, by go_num, by rw [HT.out]; exact ho5, ?_⟩
        exact (hbr.alloc hbr.size _).grown hg5 (by have := hbr.size; simp; omega) (fun q hq => HLt.out q hq)
      case measure => simp [intOf]; omega
    · have e : k = E.length := by omega
      have hown' := hown
      rw [e, List.take_of_length_le (by omega)] at hown'
      have HO := Hid.mk' hown'
      clear hown hown' e
      go_wp2
      go_ret
      exact ⟨_, rfl, owns_low HO.out HB2.out.size, HBr.out⟩
end Go.Proofs.YtchbheoapldkaaaGreat
