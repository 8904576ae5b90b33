/-
  The contract of Read of a whole file.
-/
import Derived.Test.YthkjjebghfcgkaaCo
namespace Go.Proofs.Ythkjjebghfcgkaa
open Go.RowKit Go.Maps

set_option maxRecDepth 100000 in
set_option maxHeartbeats 1000000 in
/-- All bytes of a file. -/
theorem fread_all (fb : Nat) (na : Option Addr) (nc : Nat) (l : List Nat) (w : World) (c2 : w.cell? ⟨fb, 2, none⟩ = some (.slice na l.length nc)) (hl : l.length ≤ 4194304) (hnc : l.length ≤ nc) (hncm : nc ≤ 9223372036854775807) (hs : Sees w (.slice na l.length nc) l) :
    Calls Try.prog 64 #[.pointer (some ⟨fb, 0, none⟩), .int .i64 0, .int .i64 4194304] w fun e w' => ∃ v', e = .returned v' ∧ Rw w' v' l ∧ Below w.heap.size w w' := by
  have HS := Hid.mk' hs
  obtain ⟨n, hn⟩ : ∃ n, l.length = n := ⟨_, rfl⟩
  rw [hn] at c2 hl hnc HS
  have HN := Hid.mk' hn
  clear hs hn
  have hncI : (n : Int) ≤ (nc : Int) := by omega
  have hn0 : (0 : Int) ≤ (n : Int) := by omega
  have hncW : IntKind.i64.wrap (4194304 : Int) = 4194304 := by decide
  have hk : n < 4194304 ∨ n = 4194304 := by omega
  rcases hk with hk | rfl
  · have hk2 : (n : Int) < 4194304 := by omega
    clear hl
    go_enter Try.func64, Try.ntmps64
    go_upto_region 2 with fail
    have hS := Hid.mk' (show (fun w' : World => w'.cell? ⟨fb, 2, none⟩ = some (.slice na n nc)) w from c2)
    go_region_held3 (fun w' : World => w'.cell? ⟨fb, 2, none⟩ = some (.slice na n nc)) (first | exact hS.out | assumption | go_keep)
      (first | (go_at_call 33; refine (clone_any _ l _ (HS.out.drew) (by rw [HN.out]; omega)).mono ?_; rintro e' w2 ⟨v', rfl, hR, hb2, _⟩; have hS := Hid.mk' (show (fun w' : World => w'.cell? ⟨fb, 2, none⟩ = some (.slice na n nc)) w2 from cell_on hb2 c2)))
    all_goals
      have HR := Hid.mk' hR
      have HB : Hid (Below w.heap.size w w2) := (Below.refl _ _).drew.trans hb2
      clear hR hb2
      go_wp2
      go_ret
      exact ⟨_, rfl, HR.out, HB.out⟩
  · have hne : ¬ (nc = 0) := by omega
    clear hl hn0
    have hncI : (4194304 : Int) ≤ (nc : Int) := by omega
    go_enter Try.func64, Try.ntmps64
    go_upto_region 2 with fail
    have hS := Hid.mk' (show (fun w' : World => w'.cell? ⟨fb, 2, none⟩ = some (.slice na 4194304 nc)) w from c2)
    go_region_held3 (fun w' : World => w'.cell? ⟨fb, 2, none⟩ = some (.slice na 4194304 nc)) (first | exact hS.out | assumption | go_keep)
      (first | (go_at_call 33; refine (clone_any _ l _ (HS.out.drew) (by rw [HN.out]; omega)).mono ?_; rintro e' w2 ⟨v', rfl, hR, hb2, _⟩; have hS := Hid.mk' (show (fun w' : World => w'.cell? ⟨fb, 2, none⟩ = some (.slice na 4194304 nc)) w2 from cell_on hb2 c2)))
    all_goals
      have HR := Hid.mk' hR
      have HB : Hid (Below w.heap.size w w2) := (Below.refl _ _).drew.trans hb2
      clear hR hb2
      go_wp2
      go_ret
      exact ⟨_, rfl, HR.out, HB.out⟩

set_option maxRecDepth 100000 in
set_option maxHeartbeats 1000000 in
theorem read_all {w : World} {D mb : Nat} {v : Value} {L : List FR} {f : Int → Int} {s : Int} (h : Dk w D mb v L f s false) (hr : M.rise (names L)) (t : ByteArray) (htn : M.nam t = true) (ht : M.has (names L) t = true) :
    Calls Try.prog 27 #[.pointer (some ⟨D, 0, none⟩), .string t, .int .i64 0, .int .i64 4194304] w fun e w' => ∃ v', e = .returned (.tuple #[v', .int .i64 0]) ∧ Rw w' v' (L.getD (M.pos (names L) t) z0).seen ∧ Below w.heap.size w w' := by
  have HK := Hid.mk' (look_there h hr t htn ht)
  have HP := Hid.mk' (length_any 0)
  have HN := Hid.mk' (length_any 4194304)
  rw [show decide ((0 : Int) ≤ 0 ∧ (0 : Int) ≤ 4194304) = true by decide] at HP
  rw [show decide ((0 : Int) ≤ 4194304 ∧ (4194304 : Int) ≤ 4194304) = true by decide] at HN
  obtain ⟨hi, _⟩ := has_pos hr ht
  rw [names_length] at hi
  generalize M.pos (names L) t = i at *
  obtain ⟨hsv, hnv⟩ := h.2.2.1 _ (getD_mem L hi)
  obtain ⟨sa, sc, hsl, _, _⟩ := hsv.slice
  obtain ⟨na, nc, hnl, hncl, hncm⟩ := hnv.slice
  have HSe := Hid.mk' hnv.sees
  rw [hnl] at HSe
  rw [hsl, hnl] at HK
  have h4 := hnv.2
  generalize (L.getD i z0).nm = nm at *
  generalize (L.getD i z0).safe.length = sl at *
  generalize (L.getD i z0).seen = l at *
  clear h hsv hnv hsl hnl
  go_enter Try.func27, Try.ntmps27
  go_wp2_with fail
  refine (HP.out _).mono ?_
  rintro e w1 ⟨rfl, hw⟩
  obtain rfl := hw.symm
  clear hw
  go_wp2_with fail
  refine (HN.out _).mono ?_
  rintro e w1 ⟨rfl, hw⟩
  obtain rfl := hw.symm
  clear hw
  go_wp2_with fail
  refine HK.out.mono ?_
  rintro e w1 ⟨rfl, hb⟩
  have hz := hb.size
  have HB := Hid.mk' hb
  have HR := Hid.mk' (fread_all w1.heap.size na nc l (w1.alloc (.cells #[.string nm, .slice sa sl sc, .slice na l.length nc] 72)) (by simp) h4 hncl hncm ((HSe.out.below hb).below ((Below.refl _ _).alloc (Nat.le_refl _) _)))
  clear hb
  go_wp2_with fail
  refine HR.out.mono ?_
  rintro e w2 ⟨v', rfl, hR, hb2⟩
  have HR2 := Hid.mk' hR
  have HB2 : Hid (Below w.heap.size w w2) := (HB.out.alloc hz _).trans (hb2.mono (by simp; omega))
  clear hR hb2
  go_wp2
  go_ret2
  exact ⟨_, rfl, HR2.out, HB2.out⟩
end Go.Proofs.Ythkjjebghfcgkaa
