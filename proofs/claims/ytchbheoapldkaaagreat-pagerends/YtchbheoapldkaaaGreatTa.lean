/-
  The contract of Read of a page that the transaction has not written, and that lies in base.
-/
import Derived.Test.YtchbheoapldkaaaGreatTq
namespace Go.Proofs.YtchbheoapldkaaaGreat
open Go.RowKit Go.Maps Go.Sort Go.Shelf

set_option maxRecDepth 100000 in
set_option maxHeartbeats 1000000 in
theorem read_base {w : World} {P D n : Nat} {A : List AF} {F : List Nat} {md : Int} {lb : Nat} {c st vc ve : Int} {pb : Nat} {cnt : Int} {ob : Nat} {ma : Option Addr} {mn mc : Nat} {tl : Int} {E Ep : List (Nat × Value)} (h : Dz w D n A F) (hP : Pg w P D md lb c st vc ve (some pb) cnt (some ob) ma mn mc tl) (hst : st = 2 ∨ st = 3) (hMp : Mo w pb Ep) (k : Nat) (hk : k ≤ 4095) (hEp : Ep.find? (fun e => decide (e.1 = k)) = none) (hM : Mo w ob E) (hE : E.find? (fun e => decide (e.1 = k)) = none) :
    Calls Tryz.prog 20 #[.pointer (some ⟨P, 0, none⟩), .int .i64 (k : Int)] w fun e w' => ∃ g, e = .returned (.tuple #[.slice (some ⟨g, 0, none⟩) 512 512, .int .i64 0]) ∧ Rw w' (.slice (some ⟨g, 0, none⟩) 512 512) (pageB (seenA A baseN) k) ∧ w.heap.size ≤ g ∧ Below w.heap.size w w' := by
  have HI := Hid.mk' (inside_any (P := P) (st := st) (by omega) hP.c5)
  rw [show insE st = 0 by unfold insE; rw [if_neg (by omega), if_neg (by omega)]] at HI
  have HN := Hid.mk' (ispage_any (k : Int) w)
  rw [show isPg (k : Int) = true by unfold isPg; simp; omega] at HN
  obtain ⟨x6, x7, x8, _, x10, _, _⟩ := hP.tx
  have hgt := hM.get true (k := k) (by omega)
  rw [hE] at hgt
  simp only [if_true] at hgt
  have HPb := Hid.mk' (fun (wx : World) (hb : Below w.heap.size w wx) => page_base (h.on hb) (hP.on hb).ss vc ve pb (hMp.on hb) k hk hEp)
  have HR := Hid.mk' (fun (wx : World) (hb : Below w.heap.size w wx) => refused_any (P := P) (hP.on hb).c1)
  clear h hM hE hMp hEp hst
  go_enter Tryz.func20, Tryz.ntmps20
  go_wp2_with fail
  refine HI.out.mono ?_
  rintro e w1 ⟨rfl, hw⟩
  obtain rfl := hw.symm
  clear hw HI
  go_wp2_with fail
  refine HN.out.mono ?_
  rintro e w1 ⟨rfl, hw⟩
  obtain rfl := hw.symm
  clear hw HN
  go_upto_region 9 with fail
  have hS := Hid.mk' (show (fun w' : World => w'.cell? ⟨P, 6, none⟩ = some (.int .i64 vc) ∧ w'.cell? ⟨P, 7, none⟩ = some (.int .i64 ve) ∧ w'.cell? ⟨P, 8, none⟩ = some (.map (some pb))) w from ⟨x6, x7, x8⟩)
  go_region_held3 (fun w' : World => w'.cell? ⟨P, 6, none⟩ = some (.int .i64 vc) ∧ w'.cell? ⟨P, 7, none⟩ = some (.int .i64 ve) ∧ w'.cell? ⟨P, 8, none⟩ = some (.map (some pb))) (first | exact hS.out | assumption | go_keep)
    (first | (go_at_call 47; refine (HPb.out w.drew (Below.drew (Below.refl _ _))).mono ?_; rintro e w4 ⟨g, rfl, hr, hg, hb⟩; have HRr := Hid.mk' hr; have HBr := Hid.mk' (show Below w.heap.size w w4 from (Below.drew (Below.refl _ _)).trans hb); have HGr := Hid.mk' (show w.heap.size ≤ g from hg); have hS := Hid.mk' (show (fun w' : World => w'.cell? ⟨P, 6, none⟩ = some (.int .i64 vc) ∧ w'.cell? ⟨P, 7, none⟩ = some (.int .i64 ve) ∧ w'.cell? ⟨P, 8, none⟩ = some (.map (some pb))) w4 from ⟨cell_on HBr.out x6, cell_on HBr.out x7, cell_on HBr.out x8⟩); clear hr hg hb))
  clear hS HPb hgt
  go_wp2_with fail
  refine (HR.out w4 HBr.out).mono ?_
  rintro e w5 ⟨rfl, hw⟩
  obtain rfl := hw.symm
  clear hw HR
  go_wp2
  go_ret2
  exact ⟨_, rfl, HRr.out, HGr.out, HBr.out⟩
end Go.Proofs.YtchbheoapldkaaaGreat
