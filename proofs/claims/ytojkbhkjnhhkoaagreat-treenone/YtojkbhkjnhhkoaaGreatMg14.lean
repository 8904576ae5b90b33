/-
  Calls that are malformed; the transaction's write; Write.
  The transaction's write without marks; Write.
  A pager alone within a transaction without marks, as plain data: Read and Write.
-/
import Derived.Test.YtojkbhkjnhhkoaaGreatKs
import Derived.Test.YtojkbhkjnhhkoaaGreatMg13
import Derived.Test.YtojkbhkjnhhkoaaGreatMg10
namespace Go.Proofs.YtojkbhkjnhhkoaaGreat
open Go.RowKit Go.Maps

set_option maxRecDepth 100000 in
set_option maxHeartbeats 400000 in
theorem read_bad' {w : World} {P : Nat} {st : Int} (hst : st = 2 ∨ st = 3) (c5 : w.cell? ⟨P, 5, none⟩ = some (.int .i64 st)) {n : Int} (hn : isPg n = false) : Calls Tryz.prog 81 #[.pointer (some ⟨P, 0, none⟩), .int .i64 n] w fun e w' => e = .returned (.tuple #[.slice none 0 0, .int .i64 1]) ∧ w' = w := by
  have HI := Hid.mk' (inside_any (P := P) (st := st) (by omega) c5)
  rw [show insE st = 0 by unfold insE; rw [if_neg (by omega), if_neg (by omega)]] at HI
  have HN := Hid.mk' (ispage_any n w)
  rw [hn] at HN
  clear hn hst
  go_enter Tryz.func81, Tryz.ntmps81
  go_wp2_with fail
  refine HI.out.mono ?_
  rintro e w1 ⟨rfl, hw⟩
  obtain rfl := hw.symm
  clear hw HI
  go_wp2_with fail
  refine HN.out.mono ?_
  rintro e w1 ⟨rfl, hw⟩
  obtain rfl := hw.symm
  clear hw HN
  go_wp2
  go_ret2
  exact ⟨rfl, rfl⟩

set_option maxRecDepth 100000 in
set_option maxHeartbeats 400000 in
theorem write_bad' {w : World} {P : Nat} {st : Int} (hst : st = 2 ∨ st = 3) (c5 : w.cell? ⟨P, 5, none⟩ = some (.int .i64 st)) {n : Int} (a : Option Addr) (m c : Nat) (hn : isPg n = false ∨ m ≠ 512) : Calls Tryz.prog 75 #[.pointer (some ⟨P, 0, none⟩), .int .i64 n, .slice a m c] w fun e w' => e = .returned (.int .i64 1) ∧ w' = w := by
  have HI := Hid.mk' (inside_any (P := P) (st := st) (by omega) c5)
  rw [show insE st = 0 by unfold insE; rw [if_neg (by omega), if_neg (by omega)]] at HI
  have HN := Hid.mk' (ispage_any n w)
  cases hb : isPg n with
  | false =>
    rw [hb] at HN
    clear hn hst hb
    go_enter Tryz.func75, Tryz.ntmps75
    go_wp2_with fail
    refine HI.out.mono ?_
    rintro e w1 ⟨rfl, hw⟩
    obtain rfl := hw.symm
    clear hw HI
    go_wp2_with fail
    refine HN.out.mono ?_
    rintro e w1 ⟨rfl, hw⟩
    obtain rfl := hw.symm
    clear hw HN
    go_wp2
    go_ret
    exact ⟨rfl, rfl⟩
  | true =>
    rw [hb] at HN
    have h5 : ((m : Int) != 512) = true := by
      rw [bne_iff_ne]
      rcases hn with h | h
      · rw [h] at hb; cases hb
      · omega
    clear hn hst hb
    go_enter Tryz.func75, Tryz.ntmps75
    go_wp2_with fail
    refine HI.out.mono ?_
    rintro e w1 ⟨rfl, hw⟩
    obtain rfl := hw.symm
    clear hw HI
    go_wp2_with fail
    refine HN.out.mono ?_
    rintro e w1 ⟨rfl, hw⟩
    obtain rfl := hw.symm
    clear hw HN
    go_wp2
    go_ret
    exact ⟨rfl, rfl⟩
end Go.Proofs.YtojkbhkjnhhkoaaGreat
namespace Go.Proofs.YtojkbhkjnhhkoaaGreat
open Go.RowKit Go.Maps

/-- What stands behind the map's turn in the transaction's write. -/
def TwP (w : World) (P D : Nat) (md : Int) (lb : Nat) (c st vc ve : Int) (vp : Option Nat) (cnt : Int) (ob : Nat) (ma : Option Addr) (mn mc : Nat) (tl : Int) (E : List (Nat × Value)) (n : Nat) (l : List Nat) (na : Option Addr) (nc : Nat) (w' : World) : Prop :=
  Pg w' P D md lb c st vc ve vp cnt (some ob) ma mn mc tl ∧ Mo w' ob (putE n (.slice na 512 nc) E) ∧ Rw w' (.slice na 512 nc) l ∧ (∀ k, (Value.slice na 512 nc).ownBlock = some k → w.heap.size ≤ k) ∧ Fr [ob] w w'
theorem Pg.recnt {w : World} {P D : Nat} {md : Int} {lb : Nat} {c st vc ve : Int} {vp : Option Nat} {cnt : Int} {ow : Option Nat} {ma : Option Addr} {mn mc : Nat} {tl : Int} (h : Pg w P D md lb c st vc ve vp cnt ow ma mn mc tl) (cnt' : Int) :
    Pg (w.setCell ⟨P, 9, none⟩ (.int .i64 cnt')) P D md lb c st vc ve vp cnt' ow ma mn mc tl ∧ Fr [P] w (w.setCell ⟨P, 9, none⟩ (.int .i64 cnt')) :=
  ⟨by have h1 := heap_setCell_same w P 9 _ _ (.int .i64 cnt') h; simp only [List.setIfInBounds_toArray, List.set_cons_succ, List.set_cons_zero] at h1; exact h1, Fr.of_set w ⟨P, 9, none⟩ _⟩

set_option maxRecDepth 100000 in
set_option maxHeartbeats 1000000 in
theorem twrite_ok {w : World} {P D : Nat} {md : Int} {lb : Nat} {c st vc ve : Int} {vp : Option Nat} {cnt : Int} {ob : Nat} {ma : Option Addr} {mc : Nat} {tl : Int} {E : List (Nat × Value)} (hP : Pg w P D md lb c st vc ve vp cnt (some ob) ma 0 mc tl) (hM : Mo w ob E) (hPo : P ≠ ob) (n : Nat) (hn : n ≤ 4095) (hE : E.length ≤ 4900) (a : Option Addr) (ac : Nat) (l : List Nat) (hl : l.length = 512) (hs : Sees w (.slice a 512 ac) l) (m : Int) (hm : max cnt ((n : Int) + 1) = m) :
    Calls Tryz.prog 123 #[.pointer (some ⟨P, 6, none⟩), .int .i64 (n : Int), .slice a 512 ac] w fun e w' => ∃ na nc, e = .returned (.tuple #[]) ∧ Pg w' P D md lb c st vc ve vp m (some ob) ma 0 mc tl ∧ Mo w' ob (putE n (.slice na 512 nc) E) ∧ Rw w' (.slice na 512 nc) l ∧ (∀ k, (Value.slice na 512 nc).ownBlock = some k → w.heap.size ≤ k) ∧ Fr [P, ob] w w' := by
  have hn1 : n ≤ 100000 := by omega
  have HE : Hid (∀ v, (putE n v E).length ≤ 5000) := (fun v => by
    unfold putE
    rw [insN_length]
    have := List.length_filter_le (fun e : Nat × Value => !decide (e.1 = n)) E
    omega)
  have HCl := Hid.mk' (clone_any (.slice a 512 ac) l w.drew (hs.drew) (by omega))
  have HLl := Hid.mk' hl
  have HP := Hid.mk' hP
  have HM := Hid.mk' hM
  obtain ⟨_, _, _, x9, x10, x11, _⟩ := hP.tx
  have HLt : Hid (P < w.heap.size) := hP.lt
  clear hP hM hl hs hE
  go_enter Tryz.func123, Tryz.ntmps123
  go_upto_region 5 with fail
  go_cut [] from 44 to 50 (fun wx => ∃ na nc, TwP w P D md lb c st vc ve vp cnt ob ma 0 mc tl E n l na nc wx)
  case first =>
    refine wp_region_held_drew (S := (fun w' : World => w'.cell? ⟨P, 10, none⟩ = some (.map (some ob)))) (by kernel_rfl) (x10) (fun hS => ?_)
    refine wpAnyH_take (i := 0) (v := ?_) rfl (by kernel_rfl) (by kernel_rfl) (by kernel_rfl) (fun _ _ _ h => h) (Or.inl ⟨by rfl, ?_⟩) hS ?_
    rotate_left
    · (intro w hSw; (try dsimp only at hSw); go_simp; try (with_reducible rfl))
    try simp only [Act.put, List.setIfInBounds_toArray]
    refine wpAnyH_take (i := 1) (v := ?_) rfl (by kernel_rfl) (by kernel_rfl) (by kernel_rfl) (fun _ _ _ h => h) (Or.inl ⟨by rfl, ?_⟩) hS ?_
    rotate_left
    · (intro w hSw; (try dsimp only at hSw); go_simp; try (with_reducible rfl))
    try simp only [Act.put]
    refine wpAnyH_take (i := 2) (v := ?_) rfl (by kernel_rfl) (by kernel_rfl) (by kernel_rfl) (fun _ _ _ h => h) (Or.inl ⟨by rfl, ?_⟩) hS ?_
    rotate_left
    · (intro w hSw; (try dsimp only at hSw); go_simp; try (with_reducible rfl))
    try simp only [Act.put]
    refine wpAnyH_take (i := 3) (v := ?_) rfl (by kernel_rfl) (by kernel_rfl) (by kernel_rfl) (fun _ _ _ h => h) (Or.inl ⟨by rfl, ?_⟩) hS ?_
    rotate_left
    · (intro w hSw; (try dsimp only at hSw); go_simp; try (with_reducible rfl))
    try simp only [Act.put]
    refine wpAnyH_take (i := 4) (v := ?_) rfl (by kernel_rfl) (by kernel_rfl) (by kernel_rfl) (fun _ _ _ h => h) (Or.inl ⟨by rfl, ?_⟩) hS ?_
    rotate_left
    · (intro w hSw; (try dsimp only at hSw); go_simp; try (with_reducible rfl))
    try simp only [Act.put]
    refine wpAnyH_take (i := 5) (v := ?_) rfl (by kernel_rfl) (by kernel_rfl) (by kernel_rfl) (fun _ _ _ h => h) (Or.inl ⟨by rfl, ?_⟩) hS ?_
    rotate_left
    · (intro w hSw; (try dsimp only at hSw); go_simp; try (with_reducible rfl))
    try simp only [Act.put]
    refine wpAnyH_ready (rs := [6]) (by kernel_rfl) (by simp) ?_
    refine (AllReadyH.cons rfl (fun K hK => ?_) AllReadyH.nil)
    go_simp
    go_wp2_with (go_at_call 58; refine HCl.out.mono ?_; rintro e' w1 ⟨v1, rfl, r1, hb1, n1⟩; obtain ⟨na, nc, rfl, _, _⟩ := r1.slice; rw [HLl.out] at r1 n1 ⊢; replace hb1 : Below w.heap.size w w1 := (Below.refl w.heap.size w).drew.trans hb1; obtain ⟨w2, hr2, hM2, hF2⟩ := (HM.out.on hb1).put hn1 (.slice na 512 nc) (HE.out _))
    refine hK.out _ _ (cell_on hb1 x10) (fun hS => ?_)
    clear hK K
    try simp only [Act.put, List.setIfInBounds_toArray, List.set_cons_zero, List.set_cons_succ]
    refine wpAnyH_ready (rs := [7]) (by kernel_rfl) (by simp) ?_
    refine (AllReadyH.cons rfl (fun K hK => ?_) AllReadyH.nil)
    go_simp
    refine hK.out _ _ (hF2.cell (cell_on hb1 x10) (by simpa using hPo)) (fun hS => ?_)
    clear hK K
    try simp only [Act.put, List.setIfInBounds_toArray, List.set_cons_zero, List.set_cons_succ]
    refine wpAnyH_done (by kernel_rfl) ?_ _
    have HX : Hid (TwP w P D md lb c st vc ve vp cnt ob ma 0 mc tl E n l na nc w2) := ⟨(HP.out.on hb1).fr hF2 (by simpa using hPo), hM2, hF2.rw r1 (fun k hk hm => by simp at hm; have h8 : w.heap.size ≤ k := n1 k hk; have := HM.out.lt; omega), fun k hk => n1 k hk, (Fr.of_below hb1).trans hF2 (fun k hk => .inl hk)⟩
    go_wp2_with fail
    go_meet
    exact ⟨na, nc, HX.out⟩
  case rest =>
    obtain ⟨na, nc, hX⟩ := hcut
    have HX := Hid.mk' hX
    have HC := Hid.mk' (hX.1.recnt m)
    obtain ⟨_, _, _, y9, _, _, _⟩ := hX.1.tx
    have fz := hX.1.frz 9
    clear hX x9 x10 x11 HCl HP HM
    go_wp2
    go_end0
    refine ⟨na, nc, rfl, HC.out.1, HX.out.2.1.fr HC.out.2 (by simpa using hPo.symm), HC.out.2.rw HX.out.2.2.1 (fun k hk hm => ?_), HX.out.2.2.2.1, (HX.out.2.2.2.2.mono (fun k hk => .inl (by simp at hk; simp [hk]))).trans HC.out.2 (fun k hk => .inl (by simp at hk; simp [hk]))⟩
    simp at hm
    have := HX.out.2.2.2.1 k hk
    have := HLt.out
    omega

set_option maxRecDepth 100000 in
set_option maxHeartbeats 1000000 in
theorem write_ok' {w : World} {P D : Nat} {md : Int} {lb : Nat} {c st vc ve : Int} {vp : Option Nat} {cnt : Int} {ob : Nat} {ma : Option Addr} {mc : Nat} {tl : Int} {E : List (Nat × Value)} {lv : M.Lv} (hP : Pg w P D md lb c st vc ve vp cnt (some ob) ma 0 mc tl) (hst : st = 2 ∨ st = 3) (hT : Tb w lb 187 lv) (hq : (lv.up c 2).1 = 0) (hne : P ≠ lb) (hM : Mo w ob E) (hPo : P ≠ ob) (hlo : lb ≠ ob) (n : Nat) (hn : n ≤ 4095) (hE : E.length ≤ 4900) (a : Option Addr) (ac : Nat) (l : List Nat) (hl : l.length = 512) (hs : Sees w (.slice a 512 ac) l) (ha : ∀ x, a = some x → x.block ≠ P ∧ x.block ≠ lb) (m : Int) (hm : max cnt ((n : Int) + 1) = m) :
    Calls Tryz.prog 75 #[.pointer (some ⟨P, 0, none⟩), .int .i64 (n : Int), .slice a 512 ac] w fun e w' => ∃ na nc, e = .returned (.int .i64 0) ∧ Pg w' P D md lb c 3 vc ve vp m (some ob) ma 0 mc tl ∧ Tb w' lb 187 (lv.up c 2).2 ∧ Mo w' ob (putE n (.slice na 512 nc) E) ∧ Rw w' (.slice na 512 nc) l ∧ (∀ k, (Value.slice na 512 nc).ownBlock = some k → w.heap.size ≤ k) ∧ Fr [P, lb, ob] w w' := by
  have HI := Hid.mk' (inside_any (P := P) (st := st) (by omega) hP.c5)
  rw [show insE st = 0 by unfold insE; rw [if_neg (by omega), if_neg (by omega)]] at HI
  have HN := Hid.mk' (ispage_any (n : Int) w)
  rw [show isPg (n : Int) = true by unfold isPg; simp; omega] at HN
  have HR := Hid.mk' (reserve_ok hP hT hne hq)
  have HM := Hid.mk' hM
  have HS := Hid.mk' hs
  have HA := Hid.mk' ha
  have HLl := Hid.mk' hl
  clear hP hT hq hM hs ha hst hl
  go_enter Tryz.func75, Tryz.ntmps75
  go_wp2_with fail
  refine HI.out.mono ?_
  rintro e w1 ⟨rfl, hw⟩
  obtain rfl := hw.symm
  clear hw HI
  go_wp2_with fail
  refine HN.out.mono ?_
  rintro e w1 ⟨rfl, hw⟩
  obtain rfl := hw.symm
  clear hw HN
  go_wp2_with fail
  refine HR.out.mono ?_
  rintro e w2 ⟨rfl, hP2, hT2, hF2⟩
  have HT2 := Hid.mk' hT2
  have HF2 := Hid.mk' hF2
  have hfs : ob ∉ [P, lb] := by simp; exact ⟨hPo.symm, hlo.symm⟩
  have HTw := Hid.mk' (twrite_ok hP2 (HM.out.fr hF2 hfs) hPo n hn hE a ac l HLl.out (hF2.sees HS.out (fun x _ _ e hm => by
    obtain ⟨rfl, _, _⟩ := by simpa using e
    have := HA.out x rfl
    simp at hm
    omega)) m hm)
  clear hP2 hT2 hF2 HR hfs
  go_wp2_with fail
  refine HTw.out.mono ?_
  rintro e w3 ⟨na, nc, rfl, h1, h2, h3, h4, h5⟩
  have H1 := Hid.mk' h1
  have H2 := Hid.mk' h2
  have H3 := Hid.mk' h3
  have H4 := Hid.mk' h4
  have H5 := Hid.mk' h5
  clear h1 h2 h3 h4 h5 HTw
  go_wp2
  go_ret
  refine ⟨na, nc, rfl, H1.out, HT2.out.fr H5.out (by simp; exact ⟨hne.symm, hlo⟩), H2.out, H3.out, fun k hk => Nat.le_trans HF2.out.2.1 (H4.out k hk), (HF2.out.mono (fun k hk => .inl (by simp at hk; rcases hk with h | h <;> simp [h]))).trans H5.out (fun k hk => .inl (by simp at hk; rcases hk with h | h <;> simp [h]))⟩
end Go.Proofs.YtojkbhkjnhhkoaaGreat
namespace Go.Proofs.YtojkbhkjnhhkoaaGreat
open Go.RowKit Go.Maps Go.Sort Go.Shelf

theorem mem_insN (x e : Nat × Value) (E : List (Nat × Value)) : e ∈ insN x E ↔ e = x ∨ e ∈ E := by
  induction E with
  | nil => simp [insN]
  | cons y E ih =>
    rw [insN]
    split
    · simp
    · rw [List.mem_cons, ih, List.mem_cons]
      constructor
      · rintro (h | h | h)
        · exact .inr (.inl h)
        · exact .inl h
        · exact .inr (.inr h)
      · rintro (h | h | h)
        · exact .inr (.inl h)
        · exact .inl h
        · exact .inr (.inr h)
theorem mem_putE (k : Nat) (u : Value) (e : Nat × Value) (E : List (Nat × Value)) : e ∈ putE k u E ↔ e = (k, u) ∨ (e ∈ E ∧ e.1 ≠ k) := by
  unfold putE
  rw [mem_insN, List.mem_filter]
  simp
theorem rises_insN {x : Nat × Value} {E : List (Nat × Value)} (h : risesE E) (hx : ∀ e ∈ E, e.1 ≠ x.1) : risesE (insN x E) := by
  induction E with
  | nil => simp [insN, risesE]
  | cons y E ih =>
    unfold risesE at h ih ⊢
    rw [List.pairwise_cons] at h
    rw [insN]
    split
    · rename_i hlt
      rw [List.pairwise_cons, List.pairwise_cons]
      refine ⟨fun e he => ?_, h⟩
      rcases List.mem_cons.1 he with rfl | he
      · exact hlt
      · exact Nat.lt_trans hlt (h.1 e he)
    · rename_i hlt
      rw [List.pairwise_cons]
      refine ⟨fun e he => ?_, ih h.2 (fun e he => hx e (List.mem_cons_of_mem _ he))⟩
      rcases (mem_insN x e E).1 he with rfl | he
      · have := hx y (List.mem_cons_self ..)
        omega
      · exact h.1 e he
theorem rises_putE {k : Nat} {u : Value} {E : List (Nat × Value)} (h : risesE E) : risesE (putE k u E) := by
  unfold putE
  exact rises_insN (List.Pairwise.filter _ h) (fun e he => by
    rw [List.mem_filter] at he
    simpa using he.2)
theorem find_iff {E : List (Nat × Value)} (h : risesE E) (j : Nat) (e : Nat × Value) : E.find? (fun e => decide (e.1 = j)) = some e ↔ e ∈ E ∧ e.1 = j := by
  constructor
  · intro hf
    exact ⟨List.mem_of_find?_eq_some hf, by simpa using List.find?_some hf⟩
  · rintro ⟨hm, rfl⟩
    obtain ⟨k, hk, rfl⟩ := List.mem_iff_getElem.1 hm
    exact find_rise h k hk
theorem find_no {E : List (Nat × Value)} (j : Nat) : E.find? (fun e => decide (e.1 = j)) = none ↔ ∀ e ∈ E, e.1 ≠ j := by
  rw [List.find?_eq_none]
  simp
theorem rises_length {E : List (Nat × Value)} (h : risesE E) (m : Nat) (hm : ∀ e ∈ E, e.1 ≤ m) : E.length ≤ m + 1 := by
  suffices ∀ (E : List (Nat × Value)) (a : Nat), risesE E → (∀ e ∈ E, a ≤ e.1 ∧ e.1 ≤ m) → a ≤ m + 1 → E.length ≤ m + 1 - a by
    have := this E 0 h (fun e he => ⟨by omega, hm e he⟩) (by omega)
    omega
  intro E
  induction E with
  | nil => intro a _ _ _; simp
  | cons x E ih =>
    intro a h ha hm'
    unfold risesE at h
    rw [List.pairwise_cons] at h
    have h1 := ha x (List.mem_cons_self ..)
    have := ih (x.1 + 1) h.2 (fun e he => ⟨h.1 e he, (ha e (List.mem_cons_of_mem _ he)).2⟩) (by omega)
    rw [List.length_cons]
    omega

set_option maxRecDepth 100000 in
set_option maxHeartbeats 1000000 in
theorem read_old {w : World} {P D n : Nat} {A : List AF} {F : List Nat} {md : Int} {lb : Nat} {c st vc ve : Int} {pb : Nat} {cnt : Int} {ob : Nat} {ma : Option Addr} {mn mc : Nat} {tl : Int} {E : List (Nat × Value)} {Pl : List (Nat × Nat)} (h : Dz w D n A F) (hP : Pg w P D md lb c st vc ve (some pb) cnt (some ob) ma mn mc tl) (hst : st = 2 ∨ st = 3) (hMp : Mo w pb (plE Pl)) (hPl : ∀ e ∈ Pl, e.2 ≤ 4194304) (k : Nat) (hk : k ≤ 4095) (hM : Mo w ob E) (hE : E.find? (fun e => decide (e.1 = k)) = none) :
    Calls Tryz.prog 81 #[.pointer (some ⟨P, 0, none⟩), .int .i64 (k : Int)] w fun e w' => ∃ g, e = .returned (.tuple #[.slice (some ⟨g, 0, none⟩) 512 512, .int .i64 0]) ∧ Rw w' (.slice (some ⟨g, 0, none⟩) 512 512) (pageV (seenA A baseN) (seenA A logN) Pl k) ∧ w.heap.size ≤ g ∧ Below w.heap.size w w' := by
  have HI := Hid.mk' (inside_any (P := P) (st := st) (by omega) hP.c5)
  rw [show insE st = 0 by unfold insE; rw [if_neg (by omega), if_neg (by omega)]] at HI
  have HN := Hid.mk' (ispage_any (k : Int) w)
  rw [show isPg (k : Int) = true by unfold isPg; simp; omega] at HN
  obtain ⟨x6, x7, x8, _, x10, _, _⟩ := hP.tx
  have hgt := hM.get true (k := k) (by omega)
  rw [hE] at hgt
  simp only [if_true] at hgt
  have HPb := Hid.mk' (fun (wx : World) (hb : Below w.heap.size w wx) => spage_any (h.on hb) (hP.on hb).ss vc ve pb (hMp.on hb) hPl k hk)
  have HR := Hid.mk' (fun (wx : World) (hb : Below w.heap.size w wx) => refused_any (P := P) (hP.on hb).c1)
  generalize pageV (seenA A baseN) (seenA A logN) Pl k = pl at *
  clear h hM hE hMp hst hPl
  go_enter Tryz.func81, Tryz.ntmps81
  go_wp2_with fail
  refine HI.out.mono ?_
  rintro e w1 ⟨rfl, hw⟩
  obtain rfl := hw.symm
  clear hw HI
  go_wp2_with fail
  refine HN.out.mono ?_
  rintro e w1 ⟨rfl, hw⟩
  obtain rfl := hw.symm
  clear hw HN
  go_upto_region 9 with fail
  have hS := Hid.mk' (show (fun w' : World => w'.cell? ⟨P, 6, none⟩ = some (.int .i64 vc) ∧ w'.cell? ⟨P, 7, none⟩ = some (.int .i64 ve) ∧ w'.cell? ⟨P, 8, none⟩ = some (.map (some pb))) w from ⟨x6, x7, x8⟩)
  go_region_held3 (fun w' : World => w'.cell? ⟨P, 6, none⟩ = some (.int .i64 vc) ∧ w'.cell? ⟨P, 7, none⟩ = some (.int .i64 ve) ∧ w'.cell? ⟨P, 8, none⟩ = some (.map (some pb))) (first | exact hS.out | assumption | go_keep)
    (first | (go_at_call 138; refine (HPb.out w.drew (Below.drew (Below.refl _ _))).mono ?_; rintro e w4 ⟨g, rfl, hr, hg, hb⟩; have HRr := Hid.mk' hr; have HBr := Hid.mk' (show Below w.heap.size w w4 from (Below.drew (Below.refl _ _)).trans hb); have HGr := Hid.mk' (show w.heap.size ≤ g from hg); have hS := Hid.mk' (show (fun w' : World => w'.cell? ⟨P, 6, none⟩ = some (.int .i64 vc) ∧ w'.cell? ⟨P, 7, none⟩ = some (.int .i64 ve) ∧ w'.cell? ⟨P, 8, none⟩ = some (.map (some pb))) w4 from ⟨cell_on HBr.out x6, cell_on HBr.out x7, cell_on HBr.out x8⟩); clear hr hg hb))
  clear hS HPb hgt
  go_wp2_with fail
  refine (HR.out w4 HBr.out).mono ?_
  rintro e w5 ⟨rfl, hw⟩
  obtain rfl := hw.symm
  clear hw HR
  go_wp2
  go_ret2
  exact ⟨_, rfl, HRr.out, HGr.out, HBr.out⟩

/-- The locks of one that is alone: shared, reserved. -/
def lvS : M.Lv := (zeroL.up 0 1).2
def lvR : M.Lv := (lvS.up 0 2).2
theorem lvS_up : (lvS.up 0 2).1 = 0 := by kernel_rfl
theorem lvR_up : (lvR.up 0 2).1 = 0 ∧ (lvR.up 0 2).2 = lvR := ⟨by kernel_rfl, by kernel_rfl⟩
/-- A pager at P, alone, in a transaction over the files A whose pages lie in base, or in the log at Pl. -/
def Tx0 (P : Nat) (md vc ve : Int) (A : List AF) (Pl : List (Nat × Nat)) (w : World) (pg : Nat → List Nat) (cnt : Int) (B : List Nat) : Prop :=
  ∃ D n F lb st pb ob E lv, Dz w D n A F ∧ Pg w P D md lb 0 st vc ve (some pb) cnt (some ob) none 0 0 0 ∧ ((st = 2 ∧ lv = lvS) ∨ (st = 3 ∧ lv = lvR)) ∧ Tb w lb 187 lv ∧
    Mo w pb (plE Pl) ∧ Mo w ob E ∧ risesE E ∧ (∀ e ∈ E, e.1 ≤ 4095 ∧ (pg e.1).length = 512 ∧ Rw w e.2 (pg e.1)) ∧ (∀ k, k ≤ 4095 → ∀ x ∈ pg k, x < 256) ∧
    (∀ k, k ≤ 4095 → (∀ e ∈ E, e.1 ≠ k) → pg k = pageV (seenA A baseN) (seenA A logN) Pl k) ∧ (∀ e ∈ Pl, e.2 ≤ 4194304) ∧
    (P ≠ lb ∧ P ≠ ob ∧ lb ≠ ob ∧ pb ≠ ob ∧ pb ≠ P ∧ pb ≠ lb ∧ P ∉ F ∧ lb ∉ F ∧ ob ∉ F) ∧
    (P ∈ B ∧ lb ∈ B ∧ ob ∈ B ∧ pb ∈ B ∧ (∀ k ∈ F, k ∈ B) ∧ (∀ e ∈ E, ∀ k, e.2.ownBlock = some k → k ∈ B) ∧ ∀ k ∈ B, k < w.heap.size)

theorem rw_lt {w : World} {v : Value} {l : List Nat} (h : Rw w v l) : ∀ k, v.ownBlock = some k → k < w.heap.size := by
  intro k hk
  rcases h.1.2 with ⟨rfl, _⟩ | ⟨g', cap, cur', rfl, _, hg', _⟩
  · simp [Value.ownBlock] at hk
  · simp [Value.ownBlock] at hk
    subst hk
    exact (Array.getElem?_eq_some_iff.1 hg').1
theorem Rw.ne_cells {w : World} {v : Value} {l : List Nat} (h : Rw w v l) {g : Nat} {cur : Array Value} {t : TypeId} (hg : w.heap[g]? = some (.cells cur t (0, 0))) (ht : t ≠ 5) : ∀ k, v.ownBlock = some k → k ≠ g := by
  rintro k hk rfl
  rcases h.1.2 with ⟨rfl, _⟩ | ⟨g', cap, cur', rfl, _, hg', _⟩
  · simp [Value.ownBlock] at hk
  · simp [Value.ownBlock] at hk
    subst hk
    rw [hg] at hg'
    simp at hg'
    exact ht hg'.2
theorem Rw.ne_map {w : World} {v : Value} {l : List Nat} (h : Rw w v l) {g : Nat} {E : List (Nat × Value)} (hg : Mo w g E) : ∀ k, v.ownBlock = some k → k ≠ g := by
  rintro k hk rfl
  obtain ⟨es, clock, hb, _⟩ := hg
  rcases h.1.2 with ⟨rfl, _⟩ | ⟨g', cap, cur', rfl, _, hg', _⟩
  · simp [Value.ownBlock] at hk
  · simp [Value.ownBlock] at hk
    subst hk
    rw [hb] at hg'
    cases hg'

theorem Tx0.fr {P : Nat} {md vc ve : Int} {A : List AF} {Pl : List (Nat × Nat)} {w w' : World} {pg : Nat → List Nat} {cnt : Int} {B fs : List Nat} (h : Tx0 P md vc ve A Pl w pg cnt B) (hF : Fr fs w w') (hn : ∀ k ∈ B, k ∉ fs) : Tx0 P md vc ve A Pl w' pg cnt B := by
  obtain ⟨D, n, F, lb, st, pb, ob, E, lv, hD, hP, hst, hT, hMp, hM, hr, hE, hx, hV, hPl, hne, hB1, hB2, hB3, hB4, hB5, hB6, hB7⟩ := h
  exact ⟨D, n, F, lb, st, pb, ob, E, lv, hD.fr hF (fun k hk => hn k (hB5 k hk)), hP.fr hF (hn P hB1), hst, hT.fr hF (hn lb hB2), hMp.fr hF (hn pb hB4), hM.fr hF (hn ob hB3), hr, fun e he => ⟨(hE e he).1, (hE e he).2.1, hF.rw (hE e he).2.2 (fun k hk => hn k (hB6 e he k hk))⟩, hx, hV, hPl, hne, hB1, hB2, hB3, hB4, hB5, hB6, fun k hk => Nat.lt_of_lt_of_le (hB7 k hk) hF.2.1⟩

theorem Tx0.txi (P : Nat) (md vc ve : Int) (A : List AF) (Pl : List (Nat × Nat)) : TxI P (Tx0 P md vc ve A Pl) := by
  refine ⟨fun w w' pg cnt B fs h hF hn => h.fr hF hn, fun w pg cnt B h => ?_, fun w pg cnt B h k hk => ?_, fun w pg cnt B h k hk a ac l hl hx hs ha => ?_⟩
  · obtain ⟨D, n, F, lb, st, pb, ob, E, lv, hD, hP, hst, hT, hMp, hM, hr, hE, hx, hV, hPl, hne, hB1, hB2, hB3, hB4, hB5, hB6, hB7⟩ := h
    exact hB7
  · obtain ⟨D, n, F, lb, st, pb, ob, E, lv, hD, hP, hst, hT, hMp, hM, hr, hE, hx, hV, hPl, hne, hB1, hB2, hB3, hB4, hB5, hB6, hB7⟩ := h
    have hst' : st = 2 ∨ st = 3 := hst.imp And.left And.left
    cases hf : E.find? (fun e => decide (e.1 = k)) with
    | some e0 =>
      obtain ⟨he, hk0⟩ := (find_iff hr k e0).1 hf
      subst hk0
      refine (read_own hP hst' e0.1 hk hM e0 hf _ (hE e0 he).2.2.sees (hE e0 he).2.1).mono ?_
      rintro e w1 ⟨na, nc, rfl, hR, hfr, hb⟩
      obtain ⟨g, c, hv, _⟩ := owns_some hR.1 (by rw [(hE e0 he).2.1]; omega)
      rw [(hE e0 he).2.1] at hv
      simp at hv
      obtain ⟨rfl, rfl⟩ := hv
      exact ⟨g, nc, rfl, ⟨hR, (hE e0 he).2.1, hx _ hk⟩, hfr g rfl, hb⟩
    | none =>
      have hno := (find_no k).1 hf
      refine (read_old hD hP hst' hMp hPl k hk hM hf).mono ?_
      rintro e w1 ⟨g, rfl, hR, hg, hb⟩
      rw [← hV k hk hno] at hR
      exact ⟨g, 512, rfl, ⟨hR, by rw [hV k hk hno]; exact pageV_length _ _ _ _, hx k hk⟩, hg, hb⟩
  · obtain ⟨D, n, F, lb, st, pb, ob, E, lv, hD, hP, hst, hT, hMp, hM, hr, hE, hx0, hV, hPl, ⟨n1, n2, n3, n4, n5, n6, n7, n8, n9⟩, hB1, hB2, hB3, hB4, hB5, hB6, hB7⟩ := h
    have hst' : st = 2 ∨ st = 3 := hst.imp And.left And.left
    have hlv : (lv.up 0 2).1 = 0 ∧ (lv.up 0 2).2 = lvR := by
      rcases hst with ⟨_, rfl⟩ | ⟨_, rfl⟩
      · exact ⟨lvS_up, rfl⟩
      · exact lvR_up
    have hlen := rises_length hr 4095 (fun e he => (hE e he).1)
    refine (write_ok' hP hst' hT hlv.1 n1 hM n2 n3 k hk (by omega) a ac l hl hs (fun x hxa => ⟨fun e => ?_, fun e => ?_⟩) _ rfl).mono ?_
    · exact ha x hxa (e ▸ hB1)
    · exact ha x hxa (e ▸ hB2)
    · rintro e w1 ⟨na, nc, rfl, hP1, hT1, hM1, hR1, hf1, hF1⟩
      rw [hlv.2] at hT1
      have hfs : ∀ (u : Value) (q : List Nat), Rw w u q → ∀ j, u.ownBlock = some j → j ∉ [P, lb, ob] := by
        intro u q hu j hj hm
        simp at hm
        rcases hm with h | h | h
        · exact hu.ne_cells hP (by decide) j hj h
        · exact hu.ne_cells hT.1 (by decide) j hj h
        · exact hu.ne_map hM j hj h
      refine ⟨rfl, (match (Value.slice na 512 nc).ownBlock with | some j => [j] | none => []) ++ B, ⟨D, n, F, lb, 3, pb, ob, _, lvR, hD.fr hF1 (fun j hj hm => ?_), hP1, .inr ⟨rfl, rfl⟩, hT1, hMp.fr hF1 (by simp; omega), hM1, rises_putE hr, fun e he => ?_, fun j hj => ?_, fun j hj hno => ?_, hPl, ⟨n1, n2, n3, n4, n5, n6, n7, n8, n9⟩, ?_, ?_, ?_, ?_, fun j hj => ?_, fun e he j hj => ?_, fun j hj => ?_⟩, hF1.mono (fun j hj => ?_), fun j hj => ?_⟩
      · simp at hm
        rcases hm with h | h | h
        · exact n7 (h ▸ hj)
        · exact n8 (h ▸ hj)
        · exact n9 (h ▸ hj)
      · rcases (mem_putE k _ e E).1 he with rfl | ⟨he', hne⟩
        · rw [upd_same]
          exact ⟨hk, hl, hR1⟩
        · rw [upd_other pg l hne]
          exact ⟨(hE e he').1, (hE e he').2.1, hF1.rw (hE e he').2.2 (hfs _ _ (hE e he').2.2)⟩
      · by_cases e : j = k
        · subst e
          rw [upd_same]
          exact hx
        · rw [upd_other pg l e]
          exact hx0 j hj
      · have hjk : j ≠ k := fun e => hno (k, .slice na 512 nc) ((mem_putE k _ _ E).2 (.inl rfl)) e.symm
        rw [upd_other pg l hjk]
        refine hV j hj (fun e he e1 => hno e ((mem_putE k _ e E).2 (.inr ⟨he, ?_⟩)) e1)
        omega
      · exact List.mem_append.2 (.inr hB1)
      · exact List.mem_append.2 (.inr hB2)
      · exact List.mem_append.2 (.inr hB3)
      · exact List.mem_append.2 (.inr hB4)
      · exact List.mem_append.2 (.inr (hB5 j hj))
      · rcases (mem_putE k _ e E).1 he with rfl | ⟨he', hne⟩
        · refine List.mem_append.2 (.inl ?_)
          simp only at hj ⊢
          rw [hj]
          simp
        · exact List.mem_append.2 (.inr (hB6 e he' j hj))
      · rcases List.mem_append.1 hj with h | h
        · cases hv : (Value.slice na 512 nc).ownBlock with
          | none => rw [hv] at h; cases h
          | some q =>
            rw [hv] at h
            simp at h
            subst h
            exact rw_lt hR1 j hv
        · exact Nat.lt_of_lt_of_le (hB7 j h) hF1.2.1
      · simp at hj
        rcases hj with h | h | h
        · exact .inl (h ▸ hB1)
        · exact .inl (h ▸ hB2)
        · exact .inl (h ▸ hB3)
      · rcases List.mem_append.1 hj with h | h
        · cases hv : (Value.slice na 512 nc).ownBlock with
          | none => rw [hv] at h; cases h
          | some q =>
            rw [hv] at h
            simp at h
            subst h
            exact .inr (hf1 j hv)
        · exact .inl h
end Go.Proofs.YtojkbhkjnhhkoaaGreat
