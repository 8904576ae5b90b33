/-
  The contracts of a committed page wherever it lies, and of Read.
-/
import Derived.Test.YtchbheoapldkaaaGreatTa
import Derived.Test.YtchbheoapldkaaaGreatMg2
namespace Go.Proofs.YtchbheoapldkaaaGreat
open Go.RowKit Go.Maps Go.Sort Go.Shelf

/-- The page that lies at p in bytes; a map of places; page k of what is committed. -/
def pageAt (s : List Nat) (p : Nat) : List Nat := (s.drop p).take 512 ++ (nul 512).drop ((s.drop p).take 512).length
def plE (Pl : List (Nat × Nat)) : List (Nat × Value) := Pl.map fun e => (e.1, .int .i64 (e.2 : Int))
def pageV (b l : List Nat) (Pl : List (Nat × Nat)) (k : Nat) : List Nat := match Pl.find? (fun e => decide (e.1 = k)) with
  | some e => pageAt l e.2
  | none => pageAt b (k * 512)
theorem pageAt_length (s : List Nat) (p : Nat) : (pageAt s p).length = 512 := by
  unfold pageAt
  rw [List.length_append, List.length_drop, nul_length, List.length_take]
  omega
theorem pageV_length (b l : List Nat) (Pl : List (Nat × Nat)) (k : Nat) : (pageV b l Pl k).length = 512 := by
  unfold pageV
  split <;> exact pageAt_length _ _
theorem find_plE (Pl : List (Nat × Nat)) (k : Nat) : (plE Pl).find? (fun e => decide (e.1 = k)) = (Pl.find? (fun e => decide (e.1 = k))).map fun e => (e.1, .int .i64 (e.2 : Int)) := by
  unfold plE
  rw [List.find?_map]
  rfl

set_option maxRecDepth 100000 in
set_option maxHeartbeats 1000000 in
theorem spage_any {w : World} {P D n : Nat} {A : List AF} {F : List Nat} (h : Dz w D n A F) (hS : Ss w P D) (vc ve : Int) (pb : Nat) {Pl : List (Nat × Nat)} (hM : Mo w pb (plE Pl)) (hPl : ∀ e ∈ Pl, e.2 ≤ 4194304) (k : Nat) (hk : k ≤ 4095) :
    Calls Tryz.prog 47 #[.pointer (some ⟨P, 0, none⟩), .agg #[.int .i64 vc, .int .i64 ve, .map (some pb)], .int .i64 (k : Int)] w fun e w' => ∃ g, e = .returned (.slice (some ⟨g, 0, none⟩) 512 512) ∧ Rw w' (.slice (some ⟨g, 0, none⟩) 512 512) (pageV (seenA A baseN) (seenA A logN) Pl k) ∧ w.heap.size ≤ g ∧ Below w.heap.size w w' := by
  cases hf : Pl.find? (fun e => decide (e.1 = k)) with
  | none =>
    have := page_base h hS vc ve pb hM k hk (by rw [find_plE, hf]; rfl)
    unfold pageV
    rw [hf]
    exact this
  | some e0 =>
    have hp4 : e0.2 ≤ 4194304 := hPl e0 (List.mem_of_find?_eq_some hf)
    have HZ := Hid.mk' h
    have HS := Hid.mk' hS
    obtain ⟨w1, hw1⟩ : ∃ w1, w1 = w.alloc (.cells #[.int .i64 vc, .int .i64 ve, .map (some pb)] 91) := ⟨_, rfl⟩
    obtain ⟨bb, hbb⟩ : ∃ bb, bb = w.heap.size := ⟨_, rfl⟩
    have HB1 : Hid (Below w.heap.size w w1) := by rw [hw1]; exact (Below.refl _ _).alloc (Nat.le_refl _) _
    have k2 : w1.cell? ⟨bb, 2, none⟩ = some (.map (some pb)) := by rw [hw1, hbb]; simp
    have hgt := (hM.on HB1.out).getI true (k := k) (by omega)
    rw [find_plE, hf] at hgt
    simp only [Option.map_some, if_true] at hgt
    have HP0 : Hid (pageV (seenA A baseN) (seenA A logN) Pl k = pageAt (seenA A logN) e0.2) := by show _ = _; unfold pageV; rw [hf]
    generalize e0.2 = p at *
    have hmk := make_512 w1
    obtain ⟨w2, hw2⟩ : ∃ w2, w2 = w1.alloc (.cells ((nul 512).map B8).toArray 5) := ⟨_, rfl⟩
    obtain ⟨g, hg⟩ : ∃ g, g = w1.heap.size := ⟨_, rfl⟩
    have HB2 : Hid (Below w.heap.size w w2) := by rw [hw2]; exact HB1.out.alloc HB1.out.size _
    have HR2 : Hid (w2.heap[g]? = some (.cells ((nul 512).map B8).toArray 5 (0, 0))) := by rw [hw2, hg]; exact heap_alloc_new w1 _
    have hwg : w.heap.size ≤ g := by rw [hg]; exact HB1.out.size
    rw [← hw2, ← hg] at hmk
    obtain ⟨s, hs⟩ : ∃ s, ((seenA A logN).drop p).take 512 = s := ⟨_, rfl⟩
    have hs5 : s.length ≤ 512 := by rw [← hs, List.length_take]; omega
    have HRd := Hid.mk' (sread_any (HZ.out.on HB2.out) (HS.out.on HB2.out) logN nam_log p 512 hp4 (by omega) s hs)
    have HP : Hid (pageV (seenA A baseN) (seenA A logN) Pl k = s ++ (nul 512).drop s.length) := by rw [HP0.out]; show _ = _; unfold pageAt; rw [hs]
    clear h hS hM hs hf hPl HP0
    go_enter Tryz.func47, Tryz.ntmps47
    go_upto_region 1 with fail
    rw [← hw1, ← hbb]
    clear hw1 hbb hw2 hg
    go_wp2_with fail
    refine HRd.out.mono ?_
    rintro e w3 ⟨a, c, rfl, hr, ho, hb3⟩
    obtain ⟨w4, hr4, hg4, hF4⟩ := cprow w3 g 0 512 512 5 (nul 512) s (row_on hb3 HR2.out) _ hr.sees hs5 (by rw [nul_length]; omega)
    rw [List.take_zero, List.nil_append, Nat.zero_add, ← HP.out] at hg4
    have HG4 := Hid.mk' hg4
    have HB3 := Hid.mk' (HB2.out.trans (hb3.mono HB2.out.size))
    have HB4 := Hid.mk' (HB3.out.trans (hF4.below HB3.out.size (by simp; omega)))
    clear hr ho hb3 hg4 hF4 HRd hgt hmk
    go_wp2
    go_ret
    exact ⟨_, rfl, rw_row HG4.out (pageV_length _ _ _ _) (by omega), hwg, HB4.out⟩

set_option maxRecDepth 100000 in
set_option maxHeartbeats 1000000 in
theorem read_own {w : World} {P D : Nat} {md : Int} {lb : Nat} {c st vc ve : Int} {vp : Option Nat} {cnt : Int} {ob : Nat} {ma : Option Addr} {mn mc : Nat} {tl : Int} {E : List (Nat × Value)} (hP : Pg w P D md lb c st vc ve vp cnt (some ob) ma mn mc tl) (hst : st = 2 ∨ st = 3) (k : Nat) (hk : k ≤ 4095) (hM : Mo w ob E) (e0 : Nat × Value) (hE : E.find? (fun e => decide (e.1 = k)) = some e0) (l : List Nat) (hs : Sees w e0.2 l) (hl : l.length = 512) :
    Calls Tryz.prog 20 #[.pointer (some ⟨P, 0, none⟩), .int .i64 (k : Int)] w fun e w' => ∃ na nc, e = .returned (.tuple #[.slice na 512 nc, .int .i64 0]) ∧ Rw w' (.slice na 512 nc) l ∧ (∀ x, (Value.slice na 512 nc).ownBlock = some x → w.heap.size ≤ x) ∧ Below w.heap.size w w' := by
  have HI := Hid.mk' (inside_any (P := P) (st := st) (by omega) hP.c5)
  rw [show insE st = 0 by unfold insE; rw [if_neg (by omega), if_neg (by omega)]] at HI
  have HN := Hid.mk' (ispage_any (k : Int) w)
  rw [show isPg (k : Int) = true by unfold isPg; simp; omega] at HN
  obtain ⟨_, _, _, _, x10, _, _⟩ := hP.tx
  have hgt := hM.get true (k := k) (by omega)
  rw [hE] at hgt
  simp only [if_true] at hgt
  have HCl := Hid.mk' (clone_any e0.2 l w hs (by omega))
  generalize e0.2 = u at *
  have HL := Hid.mk' hl
  obtain ⟨⟨ua, uc, rfl, _⟩, _⟩ := hs
  clear hM hE hst hP hl
  go_enter Tryz.func20, Tryz.ntmps20
  go_wp2_with fail
  refine HI.out.mono ?_
  rintro e w1 ⟨rfl, hw⟩
  obtain rfl := hw.symm
  clear hw HI
  go_wp2_with fail
  refine HN.out.mono ?_
  rintro e w1 ⟨rfl, hw⟩
  obtain rfl := hw.symm
  clear hw HN
  go_wp2_with fail
  refine HCl.out.mono ?_
  rintro e w1 ⟨v', rfl, hr, hb, ho⟩
  obtain ⟨na, nc, rfl, _, _⟩ := hr.slice
  rw [HL.out] at hr ho ⊢
  have HR := Hid.mk' hr
  have HB := Hid.mk' hb
  have HO := Hid.mk' ho
  clear hr hb ho HCl hgt
  go_wp2
  go_ret2
  exact ⟨na, nc, rfl, HR.out, HO.out, HB.out⟩
end Go.Proofs.YtchbheoapldkaaaGreat
