/-
  The contracts of CopyFile and CopyFiles, and of Read of a whole file.
-/
import Derived.Test.YthkjjebghfcgkaaSf
import Derived.Test.YthkjjebghfcgkaaCs
namespace Go.Proofs.Ythkjjebghfcgkaa
open Go.RowKit Go.Maps

set_option maxRecDepth 100000 in
set_option maxHeartbeats 1000000 in
theorem copyfile_any (nm : ByteArray) (a : Option Addr) (c : Nat) (l : List Nat) (w : World) (hs : Sees w (.slice a l.length c) l) (hl : l.length ≤ 4194304) :
    Calls Try.prog 30 #[.agg #[.string nm, .slice a l.length c]] w fun e w' => ∃ a' c', e = .returned (.agg #[.string nm, .slice a' l.length c']) ∧ Rw w' (.slice a' l.length c') l ∧ (∀ q, (Value.slice a' l.length c').ownBlock = some q → w.heap.size ≤ q) ∧ Below w.heap.size w w' := by
  have hb0 : ∀ o1 o2 o3, Below w.heap.size w (((w.alloc o1).alloc o2).alloc o3) := fun o1 o2 o3 => (((Below.refl _ _).alloc (Nat.le_refl _) _).alloc (by simp) _).alloc (by simp; omega) _
  have HC : Hid (∀ w1, Below w.heap.size w w1 → Calls Try.prog 28 #[.slice a l.length c] w1 fun e w' => ∃ a' c', e = .returned (.slice a' l.length c') ∧ w'.ownsRow w1.heap.size 5 1 (.slice a' l.length c') l.length (l.map B8) ∧ Below w1.heap.size w1 w') := by
    show ∀ w1, _
    intro w1 hb1
    refine (copy_any _ l w1 (hs.below hb1) (by omega)).mono ?_
    rintro e w' ⟨v', rfl, ho, hb⟩
    obtain ⟨a', c', e', _, _⟩ := Rw.slice (w := w') (v := v') (l := l) ⟨owns_base ho (Nat.zero_le _), hl⟩
    exact ⟨a', c', by rw [e'], e' ▸ ho, hb⟩
  clear hs
  generalize hn : l.length = n at *
  have HN := Hid.mk' hn
  clear hn
  go_enter Try.func30, Try.ntmps30
  go_wp2_with fail
  refine (HC.out _ (hb0 _ _ _)).mono ?_
  rintro e w4 ⟨a', c', rfl, ho, hb4⟩
  have d0 := cell_on hb4 (a := ⟨w.heap.size + 1 + 1, 0, none⟩) (v := .string nm) (by rw [World.cell?_alloc_at _ _ _ _ (by simp)]; rfl)
  have d1 := cell_on hb4 (a := ⟨w.heap.size + 1 + 1, 1, none⟩) (v := .slice a n c) (by rw [World.cell?_alloc_at _ _ _ _ (by simp)]; rfl)
  have u0 := cell_on hb4 (a := ⟨w.heap.size + 1, 0, none⟩) (v := .string ⟨#[]⟩) (by rw [World.cell?_alloc_past _ _ _ (by simp), World.cell?_alloc_at _ _ _ _ (by simp)]; rfl)
  have u1 := cell_on hb4 (a := ⟨w.heap.size + 1, 1, none⟩) (v := .slice none 0 0) (by rw [World.cell?_alloc_past _ _ _ (by simp), World.cell?_alloc_at _ _ _ _ (by simp)]; rfl)
  have k1 : w4.frozen? ⟨w.heap.size + 1 + 1, 1, none⟩ = false := by rw [hb4.frozen (p := ⟨w.heap.size + 1 + 1, 1, none⟩) (by simp)]; exact World.frozen?_alloc_at _ _ _ _ (by simp)
  have k2 : ∀ j, w4.frozen? ⟨w.heap.size + 1, j, none⟩ = false := fun j => by
    rw [hb4.frozen (p := ⟨w.heap.size + 1, j, none⟩) (by simp), World.frozen?_alloc_old _ _ _ (by simp)]
    exact World.frozen?_alloc_at _ _ _ _ (by simp)
  have k3 := k2 0
  have k4 := k2 1
  have hz4 := hb4.size
  simp only [World.size_alloc] at hz4
  have HO := Hid.mk' ho
  have HB := Hid.mk' ((hb0 _ _ _).trans (hb4.mono (by simp; omega)))
  clear ho hb4 k2 HC hb0
  go_wp2
  refine bodyPost_ret ?_ rfl ⟨a', c', rfl, ?_, ?_, ?_⟩
  · simp [results, Try.results30, go_sem, u0, u1]
  · have hlt : ∀ k, (Value.slice a' n c').ownBlock = some k → w.heap.size + 1 + 1 + 1 ≤ k := fun k hk => by
      have := (HO.out.lt k hk).1
      simpa using this
    have hR : Rw w4 (.slice a' n c') l := ⟨by rw [HN.out]; exact owns_base HO.out (Nat.zero_le _), by rw [HN.out]; exact hl⟩
    refine Fr.rw (Fr.of_set _ _ _) (Fr.rw (Fr.of_set _ _ _) (Fr.rw (Fr.of_set _ _ _) hR ?_) ?_) ?_
    all_goals
      intro k hk hm
      have := hlt k hk
      simp at hm
      omega
  · intro q hq
    have := (HO.out.lt q hq).1
    simp at this
    omega
  · refine Below.setCell (Below.setCell (Below.setCell HB.out ?_ _) ?_ _) ?_ _ <;> simp <;> omega

set_option maxRecDepth 100000 in
set_option maxHeartbeats 1000000 in
theorem copyfiles_any (v : Value) (G : List GR) (w : World) (hv : Gs w v G) (h16 : G.length ≤ 64) (hl : ∀ j, j < G.length → (G.getD j g0).2.2.length ≤ 4194304) (h0 : 0 < w.heap.size) :
    Calls Try.prog 8 #[v] w fun e w' => ∃ t R, e = .returned t ∧ Outs w' w.heap.size t R ∧ R.map gab = G.map gab ∧ Below w.heap.size w w' := by
  obtain ⟨⟨a, ca, rfl, ha⟩, hma⟩ := hv
  go_enter Try.func8, Try.ntmps8
  go_wp2
  go_loopw [3, 4] (fun t i wr => ∃ (k : Nat) (R : List GR), k ≤ G.length ∧ R.length = k ∧ i = .int .i64 k ∧ Outs wr w.heap.size t R ∧ R.map gab = (G.take k).map gab ∧ Below w.heap.size w wr) (fun _ i _ => G.length - (intOf i).toNat)
  case atStart => exact ⟨0, [], by omega, rfl, rfl, ⟨World.ownsRow_nil _ _ _ _, by simp, by simp⟩, rfl, Below.refl _ _⟩
  case round =>
    obtain ⟨k, R, hk, hRk, rfl, hO, hRm, hb⟩ := hrel
    have hsz := hb.size
    by_cases hlt : k < G.length
    · obtain ⟨b, o, rfl, hc⟩ := ha (by omega)
      obtain ⟨c0, c1, hs⟩ := hc k hlt
      have hlk := hl k hlt
      have HT : Hid ((G.take (k + 1)).map gab = (G.take k).map gab ++ [((G.getD k g0).1, (G.getD k g0).2.2)]) := by
        show _ = _
        rw [List.take_succ_eq_append_getElem hlt, List.map_append]
        simp [List.getD_eq_getElem?_getD, hlt, gab]
      generalize G.getD k g0 = x at *
      obtain ⟨nm, xv, l⟩ := x
      simp only at c0 c1 hs hlk HT
      obtain ⟨xa, xc, rfl⟩ := hs.slice
      replace c0 := cell_on hb c0
      replace c1 := cell_on hb c1
      have HCF := Hid.mk' (copyfile_any nm xa xc l wr (hs.below hb) hlk)
      obtain ⟨n, hn⟩ : ∃ n, l.length = n := ⟨_, rfl⟩
      rw [hn] at c1 HCF
      have HN := Hid.mk' hn
      have HO := Hid.mk' hO
      have HRm := Hid.mk' hRm
      have HB := Hid.mk' hb
      obtain ⟨ta, tc, htv⟩ := hO.gs.1
      obtain ⟨rfl, _⟩ := htv
      clear hs hn hO hRm hb hc ha hl
      go_wp2_with fail
      refine HCF.out.mono ?_
      rintro e w3 ⟨a3, c3, rfl, hR3, hf3, hb3⟩
      have HAp : Hid _ := Hid.mk' (put_gr (l := l) HO.out (by omega) hsz h0 (show Fr [0] wr w3 from Fr.of_below hb3) (by rw [HN.out]; exact hR3) (by rw [HN.out]; exact hf3) nm)
      rw [HN.out] at HAp
      subst hRk
      clear hR3 HCF
      go_wp2_with (at_builtin; refine wpList_append_run rfl _ _ 22 22 rfl _ _ rfl rfl HAp.out ?_; rintro v5 w5 ⟨_, ho5, hf5⟩)
      go_roundw
      case rel =>
        refine ⟨R.length + 1, _, by omega, by simp, by go_num, ho5, by rw [List.map_append, HRm.out, HT.out]; simp [gab], ?_⟩
        exact (HB.out.trans (hb3.mono hsz)).trans (hf5.below (Nat.le_trans hsz hb3.size) (fun q hq => (HO.out.lt q (by simpa using hq)).2))
      case measure => simp [intOf]; omega
    · have e : k = G.length := by omega
      rw [e, List.take_of_length_le (Nat.le_refl _)] at hRm
      have HO := Hid.mk' hO
      clear hO e ha
      go_wp2
      go_ret
      exact ⟨_, R, rfl, HO.out, hRm, hb⟩
end Go.Proofs.Ythkjjebghfcgkaa

namespace Go.Proofs.Ythkjjebghfcgkaa
open Go.RowKit Go.Maps

set_option maxRecDepth 100000 in
set_option maxHeartbeats 1000000 in
/-- All bytes of a file. -/
theorem fread_all (fb : Nat) (na : Option Addr) (nc : Nat) (l : List Nat) (w : World) (c2 : w.cell? ⟨fb, 2, none⟩ = some (.slice na l.length nc)) (hl : l.length ≤ 4194304) (hnc : l.length ≤ nc) (hncm : nc ≤ 9223372036854775807) (hs : Sees w (.slice na l.length nc) l) :
    Calls Try.prog 64 #[.pointer (some ⟨fb, 0, none⟩), .int .i64 0, .int .i64 4194304] w fun e w' => ∃ v', e = .returned v' ∧ Rw w' v' l ∧ Below w.heap.size w w' := by
  have HS := Hid.mk' hs
  obtain ⟨n, hn⟩ : ∃ n, l.length = n := ⟨_, rfl⟩
  rw [hn] at c2 hl hnc HS
  have HN := Hid.mk' hn
  clear hs hn
  have hncI : (n : Int) ≤ (nc : Int) := by omega
  have hn0 : (0 : Int) ≤ (n : Int) := by omega
  have hncW : IntKind.i64.wrap (4194304 : Int) = 4194304 := by decide
  have hk : n < 4194304 ∨ n = 4194304 := by omega
  rcases hk with hk | rfl
  · have hk2 : (n : Int) < 4194304 := by omega
    clear hl
    go_enter Try.func64, Try.ntmps64
    go_upto_region 2 with fail
    have hS := Hid.mk' (show (fun w' : World => w'.cell? ⟨fb, 2, none⟩ = some (.slice na n nc)) w from c2)
    go_region_held3 (fun w' : World => w'.cell? ⟨fb, 2, none⟩ = some (.slice na n nc)) (first | exact hS.out | assumption | go_keep)
      (first | (go_at_call 33; refine (clone_any _ l _ (HS.out.drew) (by rw [HN.out]; omega)).mono ?_; rintro e' w2 ⟨v', rfl, hR, hb2, _⟩; have hS := Hid.mk' (show (fun w' : World => w'.cell? ⟨fb, 2, none⟩ = some (.slice na n nc)) w2 from cell_on hb2 c2)))
    all_goals
      have HR := Hid.mk' hR
      have HB : Hid (Below w.heap.size w w2) := (Below.refl _ _).drew.trans hb2
      clear hR hb2
      go_wp2
      go_ret
      exact ⟨_, rfl, HR.out, HB.out⟩
  · have hne : ¬ (nc = 0) := by omega
    clear hl hn0
    have hncI : (4194304 : Int) ≤ (nc : Int) := by omega
    go_enter Try.func64, Try.ntmps64
    go_upto_region 2 with fail
    have hS := Hid.mk' (show (fun w' : World => w'.cell? ⟨fb, 2, none⟩ = some (.slice na 4194304 nc)) w from c2)
    go_region_held3 (fun w' : World => w'.cell? ⟨fb, 2, none⟩ = some (.slice na 4194304 nc)) (first | exact hS.out | assumption | go_keep)
      (first | (go_at_call 33; refine (clone_any _ l _ (HS.out.drew) (by rw [HN.out]; omega)).mono ?_; rintro e' w2 ⟨v', rfl, hR, hb2, _⟩; have hS := Hid.mk' (show (fun w' : World => w'.cell? ⟨fb, 2, none⟩ = some (.slice na 4194304 nc)) w2 from cell_on hb2 c2)))
    all_goals
      have HR := Hid.mk' hR
      have HB : Hid (Below w.heap.size w w2) := (Below.refl _ _).drew.trans hb2
      clear hR hb2
      go_wp2
      go_ret
      exact ⟨_, rfl, HR.out, HB.out⟩

set_option maxRecDepth 100000 in
set_option maxHeartbeats 1000000 in
theorem read_all {w : World} {D mb : Nat} {v : Value} {L : List FR} {f : Int → Int} {s : Int} (h : Dk w D mb v L f s false) (hr : M.rise (names L)) (t : ByteArray) (htn : M.nam t = true) (ht : M.has (names L) t = true) :
    Calls Try.prog 27 #[.pointer (some ⟨D, 0, none⟩), .string t, .int .i64 0, .int .i64 4194304] w fun e w' => ∃ v', e = .returned (.tuple #[v', .int .i64 0]) ∧ Rw w' v' (L.getD (M.pos (names L) t) z0).seen ∧ Below w.heap.size w w' := by
  have HK := Hid.mk' (look_there h hr t htn ht)
  have HP := Hid.mk' (length_any 0)
  have HN := Hid.mk' (length_any 4194304)
  rw [show decide ((0 : Int) ≤ 0 ∧ (0 : Int) ≤ 4194304) = true by decide] at HP
  rw [show decide ((0 : Int) ≤ 4194304 ∧ (4194304 : Int) ≤ 4194304) = true by decide] at HN
  obtain ⟨hi, _⟩ := has_pos hr ht
  rw [names_length] at hi
  generalize M.pos (names L) t = i at *
  obtain ⟨hsv, hnv⟩ := h.2.2.1 _ (getD_mem L hi)
  obtain ⟨sa, sc, hsl, _, _⟩ := hsv.slice
  obtain ⟨na, nc, hnl, hncl, hncm⟩ := hnv.slice
  have HSe := Hid.mk' hnv.sees
  rw [hnl] at HSe
  rw [hsl, hnl] at HK
  have h4 := hnv.2
  generalize (L.getD i z0).nm = nm at *
  generalize (L.getD i z0).safe.length = sl at *
  generalize (L.getD i z0).seen = l at *
  clear h hsv hnv hsl hnl
  go_enter Try.func27, Try.ntmps27
  go_wp2_with fail
  refine (HP.out _).mono ?_
  rintro e w1 ⟨rfl, hw⟩
  obtain rfl := hw.symm
  clear hw
  go_wp2_with fail
  refine (HN.out _).mono ?_
  rintro e w1 ⟨rfl, hw⟩
  obtain rfl := hw.symm
  clear hw
  go_wp2_with fail
  refine HK.out.mono ?_
  rintro e w1 ⟨rfl, hb⟩
  have hz := hb.size
  have HB := Hid.mk' hb
  have HR := Hid.mk' (fread_all w1.heap.size na nc l (w1.alloc (.cells #[.string nm, .slice sa sl sc, .slice na l.length nc] 72)) (by simp) h4 hncl hncm ((HSe.out.below hb).below ((Below.refl _ _).alloc (Nat.le_refl _) _)))
  clear hb
  go_wp2_with fail
  refine HR.out.mono ?_
  rintro e w2 ⟨v', rfl, hR, hb2⟩
  have HR2 := Hid.mk' hR
  have HB2 : Hid (Below w.heap.size w w2) := (HB.out.alloc hz _).trans (hb2.mono (by simp; omega))
  clear hR hb2
  go_wp2
  go_ret2
  exact ⟨_, rfl, HR2.out, HB2.out⟩
end Go.Proofs.Ythkjjebghfcgkaa
