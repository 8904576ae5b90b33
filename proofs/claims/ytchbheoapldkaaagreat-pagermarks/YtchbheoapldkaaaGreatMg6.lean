/-
  The contracts of the looks in the dark.
  The contracts of look at a file that is there, and of Read of the first nine bytes of a file of four.
  The contracts of Strokes, and of Size and List in the light.
-/
import Derived.Test.YtchbheoapldkaaaGreatSo
import Derived.Test.YtchbheoapldkaaaGreatWo
namespace Go.Proofs.YtchbheoapldkaaaGreat
open Go.RowKit Go.Maps

set_option maxRecDepth 100000 in
set_option maxHeartbeats 400000 in
theorem look_dark {w : World} {D mb : Nat} {v : Value} {L : List FR} {f : Int → Int} {s : Int} (h : Dk w D mb v L f s true) (t : ByteArray) (ht : M.nam t = true) :
    Calls Tryz.prog 111 #[.pointer (some ⟨D, 0, none⟩), .string t] w fun e w' => e = .returned (.tuple #[.agg #[.string ⟨#[]⟩, .slice none 0 0, .slice none 0 0], .int .i64 9]) ∧ Below w.heap.size w w' := by
  have HN := Hid.mk' (name_any t)
  rw [ht] at HN
  obtain ⟨_, _, _, c3, _⟩ := h.cells
  clear h ht
  go_enter Tryz.func111, Tryz.ntmps111
  go_wp2_with fail
  refine (HN.out _).mono ?_
  rintro e w1 ⟨rfl, hb1⟩
  have q0 := cell_on hb1 (a := ⟨w.heap.size, 0, none⟩) (v := .string ⟨#[]⟩) (by simp)
  have q1 := cell_on hb1 (a := ⟨w.heap.size, 1, none⟩) (v := .slice none 0 0) (by simp)
  have q2 := cell_on hb1 (a := ⟨w.heap.size, 2, none⟩) (v := .slice none 0 0) (by simp)
  have hfz : ∀ j, w1.frozen? ⟨w.heap.size, j, none⟩ = false := fun j => by rw [hb1.frozen (p := ⟨w.heap.size, j, none⟩) (by simp)]; exact World.frozen?_alloc_at _ _ _ _ rfl
  have f0 := hfz 0
  have f1 := hfz 1
  have f2 := hfz 2
  replace hb1 : Below w.heap.size w w1 := ((Below.refl _ _).alloc (Nat.le_refl _) _).trans (hb1.mono (by simp))
  have c4 := cell_on hb1 c3
  have HB := Hid.mk' hb1
  clear hb1 hfz
  go_wp2
  refine bodyPost_ret ?_ rfl ⟨rfl, ?_⟩
  · simp [results, Tryz.results111, go_sem, q0, q1, q2]
  · refine Below.setCell (Below.setCell (Below.setCell HB.out ?_ _) ?_ _) ?_ _ <;> exact Nat.le_refl _

set_option maxRecDepth 100000 in
set_option maxHeartbeats 400000 in
theorem read_dark {w : World} {D mb : Nat} {v : Value} {L : List FR} {f : Int → Int} {s : Int} (h : Dk w D mb v L f s true) (t : ByteArray) (ht : M.nam t = true) (p n : Int) (hp : 0 ≤ p ∧ p ≤ 4194304) (hn : 0 ≤ n ∧ n ≤ 4194304) :
    Calls Tryz.prog 96 #[.pointer (some ⟨D, 0, none⟩), .string t, .int .i64 p, .int .i64 n] w fun e w' => e = .returned (.tuple #[.slice none 0 0, .int .i64 9]) ∧ Below w.heap.size w w' := by
  have HP := Hid.mk' (length_any p)
  rw [show decide (0 ≤ p ∧ p ≤ 4194304) = true by rw [decide_eq_true_iff]; exact hp] at HP
  have HN := Hid.mk' (length_any n)
  rw [show decide (0 ≤ n ∧ n ≤ 4194304) = true by rw [decide_eq_true_iff]; exact hn] at HN
  have HK := Hid.mk' (look_dark h t ht)
  clear h hp hn
  go_enter Tryz.func96, Tryz.ntmps96
  go_wp2_with fail
  refine (HP.out _).mono ?_
  rintro e w1 ⟨rfl, hw⟩
  obtain rfl := hw.symm
  clear hw
  go_wp2_with fail
  refine (HN.out _).mono ?_
  rintro e w1 ⟨rfl, hw⟩
  obtain rfl := hw.symm
  clear hw
  go_wp2_with fail
  refine HK.out.mono ?_
  rintro e w1 ⟨rfl, hb⟩
  have HB := Hid.mk' hb
  have hz := hb.size
  clear hb
  go_wp2
  go_ret2
  exact ⟨rfl, HB.out.alloc hz _⟩

set_option maxRecDepth 100000 in
set_option maxHeartbeats 400000 in
theorem size_dark {w : World} {D mb : Nat} {v : Value} {L : List FR} {f : Int → Int} {s : Int} (h : Dk w D mb v L f s true) (t : ByteArray) (ht : M.nam t = true) :
    Calls Tryz.prog 90 #[.pointer (some ⟨D, 0, none⟩), .string t] w fun e w' => e = .returned (.tuple #[.int .i64 0, .int .i64 9]) ∧ Below w.heap.size w w' := by
  have HK := Hid.mk' (look_dark h t ht)
  clear h
  go_enter Tryz.func90, Tryz.ntmps90
  go_wp2_with fail
  refine HK.out.mono ?_
  rintro e w1 ⟨rfl, hb⟩
  have HB := Hid.mk' hb
  have hz := hb.size
  clear hb
  go_wp2
  go_ret2
  exact ⟨rfl, HB.out.alloc hz _⟩
end Go.Proofs.YtchbheoapldkaaaGreat
namespace Go.Proofs.YtchbheoapldkaaaGreat
open Go.RowKit Go.Maps

set_option maxRecDepth 100000 in
set_option maxHeartbeats 1000000 in
theorem look_there {w : World} {D mb : Nat} {v : Value} {L : List FR} {f : Int → Int} {s : Int} (h : Dk w D mb v L f s false) (hr : M.rise (names L)) (t : ByteArray) (htn : M.nam t = true) (ht : M.has (names L) t = true) :
    Calls Tryz.prog 111 #[.pointer (some ⟨D, 0, none⟩), .string t] w fun e w' => e = .returned (.tuple #[.agg #[.string (L.getD (M.pos (names L) t) z0).nm, (L.getD (M.pos (names L) t) z0).sv, (L.getD (M.pos (names L) t) z0).nv], .int .i64 0]) ∧ Below w.heap.size w w' := by
  have HN := Hid.mk' (name_any t)
  rw [htn] at HN
  have HD := Hid.mk' h
  have HFi : Hid (∀ w1, Below w.heap.size w w1 → Calls Tryz.prog 126 #[.pointer (some ⟨D, 0, none⟩), .string t] w1 fun e w' => e = .returned (.tuple #[.int .i64 (M.pos (names L) t : Nat), .bool true]) ∧ Below w1.heap.size w1 w') := by
    show ∀ w1, _
    intro w1 hw1
    have := find_any (h.on hw1) hr t
    rw [ht] at this
    exact this
  obtain ⟨hi, _⟩ := has_pos hr ht
  rw [names_length] at hi
  generalize M.pos (names L) t = i at *
  obtain ⟨hsv, hnv⟩ := h.2.2.1 _ (getD_mem L hi)
  obtain ⟨sa, sc, hsl, _, _⟩ := hsv.slice
  obtain ⟨na, nc, hnl, _, _⟩ := hnv.slice
  obtain ⟨c0, _, _, c3, _⟩ := h.cells
  obtain ⟨a, c, rfl, hc, hcm, hrow⟩ := owns_files h.2.1.1
  obtain ⟨g, rfl, hrw⟩ := hrow (by omega)
  obtain ⟨r0, r1, r2, _⟩ := hrw i hi
  rw [hsl] at r1 ⊢
  rw [hnl] at r2 ⊢
  generalize (L.getD i z0).nm = nm at *
  generalize (L.getD i z0).safe.length = sl at *
  generalize (L.getD i z0).seen.length = nl at *
  clear h hrow hrw hsl hnl hsv hnv ht htn
  go_enter Tryz.func111, Tryz.ntmps111
  go_wp2_with fail
  refine (HN.out _).mono ?_
  rintro e w1 ⟨rfl, hb1⟩
  have q0 := cell_on hb1 (a := ⟨w.heap.size, 0, none⟩) (v := .string ⟨#[]⟩) (by simp)
  have q1 := cell_on hb1 (a := ⟨w.heap.size, 1, none⟩) (v := .slice none 0 0) (by simp)
  have q2 := cell_on hb1 (a := ⟨w.heap.size, 2, none⟩) (v := .slice none 0 0) (by simp)
  have hfz : ∀ j, w1.frozen? ⟨w.heap.size, j, none⟩ = false := fun j => by rw [hb1.frozen (p := ⟨w.heap.size, j, none⟩) (by simp)]; exact World.frozen?_alloc_at _ _ _ _ rfl
  have hz : w.heap.size + 1 ≤ w1.heap.size := by have := hb1.size; simpa using this
  replace hb1 : Below w.heap.size w w1 := ((Below.refl _ _).alloc (Nat.le_refl _) _).trans (hb1.mono (by simp))
  have c4 := cell_on hb1 c3
  have HB := Hid.mk' hb1
  have HF1 := Hid.mk' hfz
  clear hb1 hfz HN
  go_wp2_with fail
  refine (HFi.out _ HB.out).mono ?_
  rintro e w2 ⟨rfl, hb2⟩
  replace q0 := cell_on hb2 q0
  replace q1 := cell_on hb2 q1
  replace q2 := cell_on hb2 q2
  have hfz : ∀ j, w2.frozen? ⟨w.heap.size, j, none⟩ = false := fun j => by rw [hb2.frozen (p := ⟨w.heap.size, j, none⟩) (by show w.heap.size < _; omega)]; exact HF1.out j
  have f0 := hfz 0
  have f1 := hfz 1
  have f2 := hfz 2
  replace hb2 : Below w.heap.size w w2 := HB.out.trans (hb2.mono HB.out.size)
  have d0 := cell_on hb2 c0
  replace r0 := cell_on hb2 r0
  replace r1 := cell_on hb2 r1
  replace r2 := cell_on hb2 r2
  have HB2 := Hid.mk' hb2
  clear hb2 hfz HFi HF1
  go_wp2
  refine bodyPost_ret ?_ rfl ⟨rfl, ?_⟩
  · simp [results, Tryz.results111, go_sem, q0, q1, q2]
  · refine Below.setCell (Below.setCell (Below.setCell HB2.out ?_ _) ?_ _) ?_ _ <;> exact Nat.le_refl _

set_option maxRecDepth 100000 in
set_option maxHeartbeats 1000000 in
/-- The first nine bytes of a file of four. -/
theorem fread_four (fb : Nat) (na : Option Addr) (nc : Nat) (l : List Nat) (w : World) (c2 : w.cell? ⟨fb, 2, none⟩ = some (.slice na 4 nc)) (hl : l.length = 4) (hnc : 4 ≤ nc) (hncm : nc ≤ 9223372036854775807) (hs : Sees w (.slice na 4 nc) l) :
    Calls Tryz.prog 114 #[.pointer (some ⟨fb, 0, none⟩), .int .i64 0, .int .i64 9] w fun e w' => ∃ v', e = .returned v' ∧ Rw w' v' l ∧ Below w.heap.size w w' := by
  have hne : ¬ (nc = 0) := by omega
  have hncI : (4 : Int) ≤ (nc : Int) := by omega
  have hncW : IntKind.i64.wrap (9 : Int) = 9 := by decide
  have HS := Hid.mk' hs
  go_enter Tryz.func114, Tryz.ntmps114
  go_upto_region 2 with fail
  have hS := Hid.mk' (show (fun w' : World => w'.cell? ⟨fb, 2, none⟩ = some (.slice na 4 nc)) w from c2)
  go_region_held3 (fun w' : World => w'.cell? ⟨fb, 2, none⟩ = some (.slice na 4 nc)) (first | exact hS.out | assumption | go_keep)
    (first | (go_at_call 34; refine (clone_any _ l _ (by simpa using HS.out.drew) (by omega)).mono ?_; rintro e' w2 ⟨v', rfl, hR, hb2, _⟩; have hS := Hid.mk' (show (fun w' : World => w'.cell? ⟨fb, 2, none⟩ = some (.slice na 4 nc)) w2 from cell_on hb2 c2)))
  all_goals
    have HR := Hid.mk' hR
    have HB : Hid (Below w.heap.size w w2) := (Below.refl _ _).drew.trans hb2
    clear hR hb2
    go_wp2
    go_ret
    exact ⟨_, rfl, HR.out, HB.out⟩

set_option maxRecDepth 100000 in
set_option maxHeartbeats 1000000 in
theorem read_four {w : World} {D mb : Nat} {v : Value} {L : List FR} {f : Int → Int} {s : Int} (h : Dk w D mb v L f s false) (hr : M.rise (names L)) (t : ByteArray) (htn : M.nam t = true) (ht : M.has (names L) t = true) (h4 : (L.getD (M.pos (names L) t) z0).seen.length = 4) :
    Calls Tryz.prog 96 #[.pointer (some ⟨D, 0, none⟩), .string t, .int .i64 0, .int .i64 9] w fun e w' => ∃ v', e = .returned (.tuple #[v', .int .i64 0]) ∧ Rw w' v' (L.getD (M.pos (names L) t) z0).seen ∧ Below w.heap.size w w' := by
  have HK := Hid.mk' (look_there h hr t htn ht)
  have HP := Hid.mk' (length_any 0)
  have HN := Hid.mk' (length_any 9)
  rw [show decide ((0 : Int) ≤ 0 ∧ (0 : Int) ≤ 4194304) = true by decide] at HP
  rw [show decide ((0 : Int) ≤ 9 ∧ (9 : Int) ≤ 4194304) = true by decide] at HN
  obtain ⟨hi, _⟩ := has_pos hr ht
  rw [names_length] at hi
  generalize M.pos (names L) t = i at *
  obtain ⟨hsv, hnv⟩ := h.2.2.1 _ (getD_mem L hi)
  obtain ⟨sa, sc, hsl, _, _⟩ := hsv.slice
  obtain ⟨na, nc, hnl, hncl, hncm⟩ := hnv.slice
  have HSe := Hid.mk' hnv.sees
  rw [hnl, h4] at HSe
  rw [hsl, hnl, h4] at HK
  rw [h4] at hncl
  have H4 := Hid.mk' h4
  generalize (L.getD i z0).nm = nm at *
  generalize (L.getD i z0).safe.length = sl at *
  generalize (L.getD i z0).seen = l at *
  clear h hsv hnv hsl hnl h4
  go_enter Tryz.func96, Tryz.ntmps96
  go_wp2_with fail
  refine (HP.out _).mono ?_
  rintro e w1 ⟨rfl, hw⟩
  obtain rfl := hw.symm
  clear hw
  go_wp2_with fail
  refine (HN.out _).mono ?_
  rintro e w1 ⟨rfl, hw⟩
  obtain rfl := hw.symm
  clear hw
  go_wp2_with fail
  refine HK.out.mono ?_
  rintro e w1 ⟨rfl, hb⟩
  have hz := hb.size
  have HB := Hid.mk' hb
  have HR := Hid.mk' (fread_four w1.heap.size na nc l (w1.alloc (.cells #[.string nm, .slice sa sl sc, .slice na 4 nc] 87)) (by simp) H4.out hncl hncm ((HSe.out.below hb).below ((Below.refl _ _).alloc (Nat.le_refl _) _)))
  clear hb
  go_wp2_with fail
  refine HR.out.mono ?_
  rintro e w2 ⟨v', rfl, hR, hb2⟩
  have HR2 := Hid.mk' hR
  have HB2 : Hid (Below w.heap.size w w2) := (HB.out.alloc hz _).trans (hb2.mono (by simp; omega))
  clear hR hb2
  go_wp2
  go_ret2
  exact ⟨_, rfl, HR2.out, HB2.out⟩
end Go.Proofs.YtchbheoapldkaaaGreat
namespace Go.Proofs.YtchbheoapldkaaaGreat
open Go.RowKit Go.Maps

set_option maxRecDepth 100000 in
set_option maxHeartbeats 400000 in
theorem size_there {w : World} {D mb : Nat} {v : Value} {L : List FR} {f : Int → Int} {s : Int} (h : Dk w D mb v L f s false) (hr : M.rise (names L)) (t : ByteArray) (htn : M.nam t = true) (ht : M.has (names L) t = true) :
    Calls Tryz.prog 90 #[.pointer (some ⟨D, 0, none⟩), .string t] w fun e w' => e = .returned (.tuple #[.int .i64 ((L.getD (M.pos (names L) t) z0).seen.length : Nat), .int .i64 0]) ∧ Below w.heap.size w w' := by
  have HK := Hid.mk' (look_there h hr t htn ht)
  obtain ⟨hi, _⟩ := has_pos hr ht
  rw [names_length] at hi
  generalize M.pos (names L) t = i at *
  obtain ⟨hsv, hnv⟩ := h.2.2.1 _ (getD_mem L hi)
  obtain ⟨sa, sc, hsl, _, _⟩ := hsv.slice
  obtain ⟨na, nc, hnl, _, _⟩ := hnv.slice
  rw [hsl, hnl] at HK
  generalize (L.getD i z0).nm = nm at *
  generalize (L.getD i z0).safe.length = sl at *
  generalize (L.getD i z0).seen.length = nl at *
  clear h hsv hnv hsl hnl
  go_enter Tryz.func90, Tryz.ntmps90
  go_wp2_with fail
  refine HK.out.mono ?_
  rintro e w1 ⟨rfl, hb⟩
  have HB := Hid.mk' hb
  have hz := hb.size
  clear hb
  go_wp2
  go_ret2
  exact ⟨rfl, HB.out.alloc hz _⟩
end Go.Proofs.YtchbheoapldkaaaGreat
