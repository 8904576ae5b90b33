/-
  Calls that are malformed; the transaction's write; Write.
  The transaction's write without marks; Write.
-/
import Derived.Test.YtchbheoapldkaaaGreatKs
namespace Go.Proofs.YtchbheoapldkaaaGreat
open Go.RowKit Go.Maps

set_option maxRecDepth 100000 in
set_option maxHeartbeats 400000 in
theorem read_bad' {w : World} {P : Nat} {st : Int} (hst : st = 2 ∨ st = 3) (c5 : w.cell? ⟨P, 5, none⟩ = some (.int .i64 st)) {n : Int} (hn : isPg n = false) : Calls Tryz.prog 20 #[.pointer (some ⟨P, 0, none⟩), .int .i64 n] w fun e w' => e = .returned (.tuple #[.slice none 0 0, .int .i64 1]) ∧ w' = w := by
  have HI := Hid.mk' (inside_any (P := P) (st := st) (by omega) c5)
  rw [show insE st = 0 by unfold insE; rw [if_neg (by omega), if_neg (by omega)]] at HI
  have HN := Hid.mk' (ispage_any n w)
  rw [hn] at HN
  clear hn hst
  go_enter Tryz.func20, Tryz.ntmps20
  go_wp2_with fail
  refine HI.out.mono ?_
  rintro e w1 ⟨rfl, hw⟩
  obtain rfl := hw.symm
  clear hw HI
  go_wp2_with fail
  refine HN.out.mono ?_
  rintro e w1 ⟨rfl, hw⟩
  obtain rfl := hw.symm
  clear hw HN
  go_wp2
  go_ret2
  exact ⟨rfl, rfl⟩

set_option maxRecDepth 100000 in
set_option maxHeartbeats 400000 in
theorem write_bad' {w : World} {P : Nat} {st : Int} (hst : st = 2 ∨ st = 3) (c5 : w.cell? ⟨P, 5, none⟩ = some (.int .i64 st)) {n : Int} (a : Option Addr) (m c : Nat) (hn : isPg n = false ∨ m ≠ 512) : Calls Tryz.prog 14 #[.pointer (some ⟨P, 0, none⟩), .int .i64 n, .slice a m c] w fun e w' => e = .returned (.int .i64 1) ∧ w' = w := by
  have HI := Hid.mk' (inside_any (P := P) (st := st) (by omega) c5)
  rw [show insE st = 0 by unfold insE; rw [if_neg (by omega), if_neg (by omega)]] at HI
  have HN := Hid.mk' (ispage_any n w)
  cases hb : isPg n with
  | false =>
    rw [hb] at HN
    clear hn hst hb
    go_enter Tryz.func14, Tryz.ntmps14
    go_wp2_with fail
    refine HI.out.mono ?_
    rintro e w1 ⟨rfl, hw⟩
    obtain rfl := hw.symm
    clear hw HI
    go_wp2_with fail
    refine HN.out.mono ?_
    rintro e w1 ⟨rfl, hw⟩
    obtain rfl := hw.symm
    clear hw HN
    go_wp2
    go_ret
    exact ⟨rfl, rfl⟩
  | true =>
    rw [hb] at HN
    have h5 : ((m : Int) != 512) = true := by
      rw [bne_iff_ne]
      rcases hn with h | h
      · rw [h] at hb; cases hb
      · omega
    clear hn hst hb
    go_enter Tryz.func14, Tryz.ntmps14
    go_wp2_with fail
    refine HI.out.mono ?_
    rintro e w1 ⟨rfl, hw⟩
    obtain rfl := hw.symm
    clear hw HI
    go_wp2_with fail
    refine HN.out.mono ?_
    rintro e w1 ⟨rfl, hw⟩
    obtain rfl := hw.symm
    clear hw HN
    go_wp2
    go_ret
    exact ⟨rfl, rfl⟩

set_option maxRecDepth 100000 in
set_option maxHeartbeats 400000 in
theorem bsearch_nil (k : Int) (fv : Value) (w : World) : Calls Tryz.prog 70 #[.slice none 0 0, .int .i64 k, fv] w fun e w' => e = .returned (.tuple #[.int .i64 0, .bool false]) ∧ w' = w := by
  go_enter Tryz.func70, Tryz.ntmps70
  go_wp2
  go_loopw [9, 10] (fun i j wr => i = .int .i64 0 ∧ j = .int .i64 0 ∧ wr = w) (fun _ _ _ => 0)
  case atStart => exact ⟨rfl, rfl, rfl⟩
  case round =>
    obtain ⟨rfl, rfl, hw⟩ := hrel
    obtain rfl := hw.symm
    clear hw
    go_wp2
    go_ret2
    exact ⟨rfl, rfl⟩

set_option maxRecDepth 100000 in
set_option maxHeartbeats 400000 in
theorem tback_nil {w : World} {P : Nat} (x11 : w.cell? ⟨P, 11, none⟩ = some (.slice none 0 0)) (k : Int) : Calls Tryz.prog 46 #[.pointer (some ⟨P, 6, none⟩), .int .i64 k] w fun e w' => e = .returned (.bool false) ∧ Below w.heap.size w w' := by
  have hlt := World.block_lt_of_cell? _ _ x11
  have HB : Hid (Below w.heap.size w (w.alloc (.cells #[.pointer (some ⟨P, 6, none⟩)] 128))) := (Below.refl _ _).alloc (Nat.le_refl _) _
  go_enter Tryz.func46, Tryz.ntmps46
  go_wp2_with fail
  refine (bsearch_nil _ _ _).mono ?_
  rintro e w1 ⟨rfl, hw⟩
  subst hw
  go_wp2
  go_ret
  exact ⟨rfl, HB.out⟩

set_option maxRecDepth 100000 in
set_option maxHeartbeats 400000 in
theorem back_bad {w : World} {P : Nat} {st : Int} (hst : st = 2 ∨ st = 3) (c5 : w.cell? ⟨P, 5, none⟩ = some (.int .i64 st)) (x11 : w.cell? ⟨P, 11, none⟩ = some (.slice none 0 0)) (k : Int) : Calls Tryz.prog 18 #[.pointer (some ⟨P, 0, none⟩), .int .i64 k] w fun e w' => e = .returned (.int .i64 1) ∧ Below w.heap.size w w' := by
  have HI := Hid.mk' (inside_any (P := P) (st := st) (by omega) c5)
  rw [show insE st = 0 by unfold insE; rw [if_neg (by omega), if_neg (by omega)]] at HI
  have HK := Hid.mk' (tback_nil x11 k)
  clear hst
  go_enter Tryz.func18, Tryz.ntmps18
  go_wp2_with fail
  refine HI.out.mono ?_
  rintro e w1 ⟨rfl, hw⟩
  obtain rfl := hw.symm
  clear hw HI
  go_wp2_with fail
  refine HK.out.mono ?_
  rintro e w1 ⟨rfl, hb⟩
  have HB := Hid.mk' hb
  clear hb HK
  go_wp2
  go_ret
  exact ⟨rfl, HB.out⟩
end Go.Proofs.YtchbheoapldkaaaGreat
namespace Go.Proofs.YtchbheoapldkaaaGreat
open Go.RowKit Go.Maps

/-- What stands behind the map's turn in the transaction's write. -/
def TwP (w : World) (P D : Nat) (md : Int) (lb : Nat) (c st vc ve : Int) (vp : Option Nat) (cnt : Int) (ob : Nat) (ma : Option Addr) (mn mc : Nat) (tl : Int) (E : List (Nat × Value)) (n : Nat) (l : List Nat) (na : Option Addr) (nc : Nat) (w' : World) : Prop :=
  Pg w' P D md lb c st vc ve vp cnt (some ob) ma mn mc tl ∧ Mo w' ob (putE n (.slice na 512 nc) E) ∧ Rw w' (.slice na 512 nc) l ∧ (∀ k, (Value.slice na 512 nc).ownBlock = some k → w.heap.size ≤ k) ∧ Fr [ob] w w'
theorem Pg.recnt {w : World} {P D : Nat} {md : Int} {lb : Nat} {c st vc ve : Int} {vp : Option Nat} {cnt : Int} {ow : Option Nat} {ma : Option Addr} {mn mc : Nat} {tl : Int} (h : Pg w P D md lb c st vc ve vp cnt ow ma mn mc tl) (cnt' : Int) :
    Pg (w.setCell ⟨P, 9, none⟩ (.int .i64 cnt')) P D md lb c st vc ve vp cnt' ow ma mn mc tl ∧ Fr [P] w (w.setCell ⟨P, 9, none⟩ (.int .i64 cnt')) :=
  ⟨by have h1 := heap_setCell_same w P 9 _ _ (.int .i64 cnt') h; simp only [List.setIfInBounds_toArray, List.set_cons_succ, List.set_cons_zero] at h1; exact h1, Fr.of_set w ⟨P, 9, none⟩ _⟩

set_option maxRecDepth 100000 in
set_option maxHeartbeats 1000000 in
theorem twrite_ok {w : World} {P D : Nat} {md : Int} {lb : Nat} {c st vc ve : Int} {vp : Option Nat} {cnt : Int} {ob : Nat} {ma : Option Addr} {mc : Nat} {tl : Int} {E : List (Nat × Value)} (hP : Pg w P D md lb c st vc ve vp cnt (some ob) ma 0 mc tl) (hM : Mo w ob E) (hPo : P ≠ ob) (n : Nat) (hn : n ≤ 4095) (hE : E.length ≤ 4900) (a : Option Addr) (ac : Nat) (l : List Nat) (hl : l.length = 512) (hs : Sees w (.slice a 512 ac) l) (m : Int) (hm : max cnt ((n : Int) + 1) = m) :
    Calls Tryz.prog 44 #[.pointer (some ⟨P, 6, none⟩), .int .i64 (n : Int), .slice a 512 ac] w fun e w' => ∃ na nc, e = .returned (.tuple #[]) ∧ Pg w' P D md lb c st vc ve vp m (some ob) ma 0 mc tl ∧ Mo w' ob (putE n (.slice na 512 nc) E) ∧ Rw w' (.slice na 512 nc) l ∧ (∀ k, (Value.slice na 512 nc).ownBlock = some k → w.heap.size ≤ k) ∧ Fr [P, ob] w w' := by
  have hn1 : n ≤ 100000 := by omega
  have HE : Hid (∀ v, (putE n v E).length ≤ 5000) := (fun v => by
    unfold putE
    rw [insN_length]
    have := List.length_filter_le (fun e : Nat × Value => !decide (e.1 = n)) E
    omega)
  have HCl := Hid.mk' (clone_any (.slice a 512 ac) l w.drew (hs.drew) (by omega))
  have HLl := Hid.mk' hl
  have HP := Hid.mk' hP
  have HM := Hid.mk' hM
  obtain ⟨_, _, _, x9, x10, x11, _⟩ := hP.tx
  have HLt : Hid (P < w.heap.size) := hP.lt
  clear hP hM hl hs hE
  go_enter Tryz.func44, Tryz.ntmps44
  go_upto_region 5 with fail
  go_cut [] from 44 to 50 (fun wx => ∃ na nc, TwP w P D md lb c st vc ve vp cnt ob ma 0 mc tl E n l na nc wx)
  case first =>
    refine wp_region_held_drew (S := (fun w' : World => w'.cell? ⟨P, 10, none⟩ = some (.map (some ob)))) (by kernel_rfl) (x10) (fun hS => ?_)
    refine wpAnyH_take (i := 0) (v := ?_) rfl (by kernel_rfl) (by kernel_rfl) (by kernel_rfl) (fun _ _ _ h => h) (Or.inl ⟨by rfl, ?_⟩) hS ?_
    rotate_left
    · (intro w hSw; (try dsimp only at hSw); go_simp; try (with_reducible rfl))
    try simp only [Act.put, List.setIfInBounds_toArray]
    refine wpAnyH_take (i := 1) (v := ?_) rfl (by kernel_rfl) (by kernel_rfl) (by kernel_rfl) (fun _ _ _ h => h) (Or.inl ⟨by rfl, ?_⟩) hS ?_
    rotate_left
    · (intro w hSw; (try dsimp only at hSw); go_simp; try (with_reducible rfl))
    try simp only [Act.put]
    refine wpAnyH_take (i := 2) (v := ?_) rfl (by kernel_rfl) (by kernel_rfl) (by kernel_rfl) (fun _ _ _ h => h) (Or.inl ⟨by rfl, ?_⟩) hS ?_
    rotate_left
    · (intro w hSw; (try dsimp only at hSw); go_simp; try (with_reducible rfl))
    try simp only [Act.put]
    refine wpAnyH_take (i := 3) (v := ?_) rfl (by kernel_rfl) (by kernel_rfl) (by kernel_rfl) (fun _ _ _ h => h) (Or.inl ⟨by rfl, ?_⟩) hS ?_
    rotate_left
    · (intro w hSw; (try dsimp only at hSw); go_simp; try (with_reducible rfl))
    try simp only [Act.put]
    refine wpAnyH_take (i := 4) (v := ?_) rfl (by kernel_rfl) (by kernel_rfl) (by kernel_rfl) (fun _ _ _ h => h) (Or.inl ⟨by rfl, ?_⟩) hS ?_
    rotate_left
    · (intro w hSw; (try dsimp only at hSw); go_simp; try (with_reducible rfl))
    try simp only [Act.put]
    refine wpAnyH_take (i := 5) (v := ?_) rfl (by kernel_rfl) (by kernel_rfl) (by kernel_rfl) (fun _ _ _ h => h) (Or.inl ⟨by rfl, ?_⟩) hS ?_
    rotate_left
    · (intro w hSw; (try dsimp only at hSw); go_simp; try (with_reducible rfl))
    try simp only [Act.put]
    refine wpAnyH_ready (rs := [6]) (by kernel_rfl) (by simp) ?_
    refine (AllReadyH.cons rfl (fun K hK => ?_) AllReadyH.nil)
    go_simp
    go_wp2_with (go_at_call 34; refine HCl.out.mono ?_; rintro e' w1 ⟨v1, rfl, r1, hb1, n1⟩; obtain ⟨na, nc, rfl, _, _⟩ := r1.slice; rw [HLl.out] at r1 n1 ⊢; replace hb1 : Below w.heap.size w w1 := (Below.refl w.heap.size w).drew.trans hb1; obtain ⟨w2, hr2, hM2, hF2⟩ := (HM.out.on hb1).put hn1 (.slice na 512 nc) (HE.out _))
    refine hK.out _ _ (cell_on hb1 x10) (fun hS => ?_)
    clear hK K
    try simp only [Act.put, List.setIfInBounds_toArray, List.set_cons_zero, List.set_cons_succ]
    refine wpAnyH_ready (rs := [7]) (by kernel_rfl) (by simp) ?_
    refine (AllReadyH.cons rfl (fun K hK => ?_) AllReadyH.nil)
    go_simp
    refine hK.out _ _ (hF2.cell (cell_on hb1 x10) (by simpa using hPo)) (fun hS => ?_)
    clear hK K
    try simp only [Act.put, List.setIfInBounds_toArray, List.set_cons_zero, List.set_cons_succ]
    refine wpAnyH_done (by kernel_rfl) ?_ _
    have HX : Hid (TwP w P D md lb c st vc ve vp cnt ob ma 0 mc tl E n l na nc w2) := ⟨(HP.out.on hb1).fr hF2 (by simpa using hPo), hM2, hF2.rw r1 (fun k hk hm => by simp at hm; have h8 : w.heap.size ≤ k := n1 k hk; have := HM.out.lt; omega), fun k hk => n1 k hk, (Fr.of_below hb1).trans hF2 (fun k hk => .inl hk)⟩
    go_wp2_with fail
    go_meet
    exact ⟨na, nc, HX.out⟩
  case rest =>
    obtain ⟨na, nc, hX⟩ := hcut
    have HX := Hid.mk' hX
    have HC := Hid.mk' (hX.1.recnt m)
    obtain ⟨_, _, _, y9, _, _, _⟩ := hX.1.tx
    have fz := hX.1.frz 9
    clear hX x9 x10 x11 HCl HP HM
    go_wp2
    go_end0
    refine ⟨na, nc, rfl, HC.out.1, HX.out.2.1.fr HC.out.2 (by simpa using hPo.symm), HC.out.2.rw HX.out.2.2.1 (fun k hk hm => ?_), HX.out.2.2.2.1, (HX.out.2.2.2.2.mono (fun k hk => .inl (by simp at hk; simp [hk]))).trans HC.out.2 (fun k hk => .inl (by simp at hk; simp [hk]))⟩
    simp at hm
    have := HX.out.2.2.2.1 k hk
    have := HLt.out
    omega

set_option maxRecDepth 100000 in
set_option maxHeartbeats 1000000 in
theorem write_ok' {w : World} {P D : Nat} {md : Int} {lb : Nat} {c st vc ve : Int} {vp : Option Nat} {cnt : Int} {ob : Nat} {ma : Option Addr} {mc : Nat} {tl : Int} {E : List (Nat × Value)} {lv : M.Lv} (hP : Pg w P D md lb c st vc ve vp cnt (some ob) ma 0 mc tl) (hst : st = 2 ∨ st = 3) (hT : Tb w lb 110 lv) (hq : (lv.up c 2).1 = 0) (hne : P ≠ lb) (hM : Mo w ob E) (hPo : P ≠ ob) (hlo : lb ≠ ob) (n : Nat) (hn : n ≤ 4095) (hE : E.length ≤ 4900) (a : Option Addr) (ac : Nat) (l : List Nat) (hl : l.length = 512) (hs : Sees w (.slice a 512 ac) l) (ha : ∀ x, a = some x → x.block ≠ P ∧ x.block ≠ lb) (m : Int) (hm : max cnt ((n : Int) + 1) = m) :
    Calls Tryz.prog 14 #[.pointer (some ⟨P, 0, none⟩), .int .i64 (n : Int), .slice a 512 ac] w fun e w' => ∃ na nc, e = .returned (.int .i64 0) ∧ Pg w' P D md lb c 3 vc ve vp m (some ob) ma 0 mc tl ∧ Tb w' lb 110 (lv.up c 2).2 ∧ Mo w' ob (putE n (.slice na 512 nc) E) ∧ Rw w' (.slice na 512 nc) l ∧ (∀ k, (Value.slice na 512 nc).ownBlock = some k → w.heap.size ≤ k) ∧ Fr [P, lb, ob] w w' := by
  have HI := Hid.mk' (inside_any (P := P) (st := st) (by omega) hP.c5)
  rw [show insE st = 0 by unfold insE; rw [if_neg (by omega), if_neg (by omega)]] at HI
  have HN := Hid.mk' (ispage_any (n : Int) w)
  rw [show isPg (n : Int) = true by unfold isPg; simp; omega] at HN
  have HR := Hid.mk' (reserve_ok hP hT hne hq)
  have HM := Hid.mk' hM
  have HS := Hid.mk' hs
  have HA := Hid.mk' ha
  have HLl := Hid.mk' hl
  clear hP hT hq hM hs ha hst hl
  go_enter Tryz.func14, Tryz.ntmps14
  go_wp2_with fail
  refine HI.out.mono ?_
  rintro e w1 ⟨rfl, hw⟩
  obtain rfl := hw.symm
  clear hw HI
  go_wp2_with fail
  refine HN.out.mono ?_
  rintro e w1 ⟨rfl, hw⟩
  obtain rfl := hw.symm
  clear hw HN
  go_wp2_with fail
  refine HR.out.mono ?_
  rintro e w2 ⟨rfl, hP2, hT2, hF2⟩
  have HT2 := Hid.mk' hT2
  have HF2 := Hid.mk' hF2
  have hfs : ob ∉ [P, lb] := by simp; exact ⟨hPo.symm, hlo.symm⟩
  have HTw := Hid.mk' (twrite_ok hP2 (HM.out.fr hF2 hfs) hPo n hn hE a ac l HLl.out (hF2.sees HS.out (fun x _ _ e hm => by
    obtain ⟨rfl, _, _⟩ := by simpa using e
    have := HA.out x rfl
    simp at hm
    omega)) m hm)
  clear hP2 hT2 hF2 HR hfs
  go_wp2_with fail
  refine HTw.out.mono ?_
  rintro e w3 ⟨na, nc, rfl, h1, h2, h3, h4, h5⟩
  have H1 := Hid.mk' h1
  have H2 := Hid.mk' h2
  have H3 := Hid.mk' h3
  have H4 := Hid.mk' h4
  have H5 := Hid.mk' h5
  clear h1 h2 h3 h4 h5 HTw
  go_wp2
  go_ret
  refine ⟨na, nc, rfl, H1.out, HT2.out.fr H5.out (by simp; exact ⟨hne.symm, hlo⟩), H2.out, H3.out, fun k hk => Nat.le_trans HF2.out.2.1 (H4.out k hk), (HF2.out.mono (fun k hk => .inl (by simp at hk; rcases hk with h | h <;> simp [h]))).trans H5.out (fun k hk => .inl (by simp at hk; rcases hk with h | h <;> simp [h]))⟩
end Go.Proofs.YtchbheoapldkaaaGreat
