/-
  The transaction's write without marks; Write.
  The contracts of save and Commit of a transaction that has written one new page.
  Commit of one new page where the disk refuses something.
  The law package's same of one page, and its wakes.
  The law package's wakes.
  The pager's calls without a transaction, and put out; a disk with one trouble; what the store is refused with then.
-/
import Derived.Test.YtjimhikfmccicaaGreatMg23
import Derived.Test.YtjimhikfmccicaaGreatMg22
import Derived.Test.YtjimhikfmccicaaGreatMg17
namespace Go.Proofs.YtjimhikfmccicaaGreat
open Go.RowKit Go.Maps

/-- What stands behind the map's turn in the transaction's write. -/
def TwP (w : World) (P D : Nat) (md : Int) (lb : Nat) (c st vc ve : Int) (vp : Option Nat) (cnt : Int) (ob : Nat) (ma : Option Addr) (mn mc : Nat) (tl : Int) (E : List (Nat × Value)) (n : Nat) (l : List Nat) (na : Option Addr) (nc : Nat) (w' : World) : Prop :=
  Pg w' P D md lb c st vc ve vp cnt (some ob) ma mn mc tl ∧ Mo w' ob (putE n (.slice na 512 nc) E) ∧ Rw w' (.slice na 512 nc) l ∧ (∀ k, (Value.slice na 512 nc).ownBlock = some k → w.heap.size ≤ k) ∧ Fr [ob] w w'
theorem Pg.recnt {w : World} {P D : Nat} {md : Int} {lb : Nat} {c st vc ve : Int} {vp : Option Nat} {cnt : Int} {ow : Option Nat} {ma : Option Addr} {mn mc : Nat} {tl : Int} (h : Pg w P D md lb c st vc ve vp cnt ow ma mn mc tl) (cnt' : Int) :
    Pg (w.setCell ⟨P, 9, none⟩ (.int .i64 cnt')) P D md lb c st vc ve vp cnt' ow ma mn mc tl ∧ Fr [P] w (w.setCell ⟨P, 9, none⟩ (.int .i64 cnt')) :=
  ⟨by have h1 := heap_setCell_same w P 9 _ _ (.int .i64 cnt') h; simp only [List.setIfInBounds_toArray, List.set_cons_succ, List.set_cons_zero] at h1; exact h1, Fr.of_set w ⟨P, 9, none⟩ _⟩

set_option maxRecDepth 100000 in
set_option maxHeartbeats 1000000 in
theorem twrite_ok {w : World} {P D : Nat} {md : Int} {lb : Nat} {c st vc ve : Int} {vp : Option Nat} {cnt : Int} {ob : Nat} {ma : Option Addr} {mc : Nat} {tl : Int} {E : List (Nat × Value)} (hP : Pg w P D md lb c st vc ve vp cnt (some ob) ma 0 mc tl) (hM : Mo w ob E) (hPo : P ≠ ob) (n : Nat) (hn : n ≤ 4095) (hE : E.length ≤ 4900) (a : Option Addr) (ac : Nat) (l : List Nat) (hl : l.length = 512) (hs : Sees w (.slice a 512 ac) l) (m : Int) (hm : max cnt ((n : Int) + 1) = m) :
    Calls Tryz.prog 50 #[.pointer (some ⟨P, 6, none⟩), .int .i64 (n : Int), .slice a 512 ac] w fun e w' => ∃ na nc, e = .returned (.tuple #[]) ∧ Pg w' P D md lb c st vc ve vp m (some ob) ma 0 mc tl ∧ Mo w' ob (putE n (.slice na 512 nc) E) ∧ Rw w' (.slice na 512 nc) l ∧ (∀ k, (Value.slice na 512 nc).ownBlock = some k → w.heap.size ≤ k) ∧ Fr [P, ob] w w' := by
  have hn1 : n ≤ 100000 := by omega
  have HE : Hid (∀ v, (putE n v E).length ≤ 5000) := (fun v => by
    unfold putE
    rw [insN_length]
    have := List.length_filter_le (fun e : Nat × Value => !decide (e.1 = n)) E
    omega)
  have HCl := Hid.mk' (clone_any (.slice a 512 ac) l w.drew (hs.drew) (by omega))
  have HLl := Hid.mk' hl
  have HP := Hid.mk' hP
  have HM := Hid.mk' hM
  obtain ⟨_, _, _, x9, x10, x11, _⟩ := hP.tx
  have HLt : Hid (P < w.heap.size) := hP.lt
  clear hP hM hl hs hE
  go_enter Tryz.func50, Tryz.ntmps50
  go_upto_region 5 with fail
  go_cut [] from 44 to 50 (fun wx => ∃ na nc, TwP w P D md lb c st vc ve vp cnt ob ma 0 mc tl E n l na nc wx)
  case first =>
    refine wp_region_held_drew (S := (fun w' : World => w'.cell? ⟨P, 10, none⟩ = some (.map (some ob)))) (by kernel_rfl) (x10) (fun hS => ?_)
    refine wpAnyH_take (i := 0) (v := ?_) rfl (by kernel_rfl) (by kernel_rfl) (by kernel_rfl) (fun _ _ _ h => h) (Or.inl ⟨by rfl, ?_⟩) hS ?_
    rotate_left
    · (intro w hSw; (try dsimp only at hSw); go_simp; try (with_reducible rfl))
    try simp only [Act.put, List.setIfInBounds_toArray]
    refine wpAnyH_take (i := 1) (v := ?_) rfl (by kernel_rfl) (by kernel_rfl) (by kernel_rfl) (fun _ _ _ h => h) (Or.inl ⟨by rfl, ?_⟩) hS ?_
    rotate_left
    · (intro w hSw; (try dsimp only at hSw); go_simp; try (with_reducible rfl))
    try simp only [Act.put]
    refine wpAnyH_take (i := 2) (v := ?_) rfl (by kernel_rfl) (by kernel_rfl) (by kernel_rfl) (fun _ _ _ h => h) (Or.inl ⟨by rfl, ?_⟩) hS ?_
    rotate_left
    · (intro w hSw; (try dsimp only at hSw); go_simp; try (with_reducible rfl))
    try simp only [Act.put]
    refine wpAnyH_take (i := 3) (v := ?_) rfl (by kernel_rfl) (by kernel_rfl) (by kernel_rfl) (fun _ _ _ h => h) (Or.inl ⟨by rfl, ?_⟩) hS ?_
    rotate_left
    · (intro w hSw; (try dsimp only at hSw); go_simp; try (with_reducible rfl))
    try simp only [Act.put]
    refine wpAnyH_take (i := 4) (v := ?_) rfl (by kernel_rfl) (by kernel_rfl) (by kernel_rfl) (fun _ _ _ h => h) (Or.inl ⟨by rfl, ?_⟩) hS ?_
    rotate_left
    · (intro w hSw; (try dsimp only at hSw); go_simp; try (with_reducible rfl))
    try simp only [Act.put]
    refine wpAnyH_take (i := 5) (v := ?_) rfl (by kernel_rfl) (by kernel_rfl) (by kernel_rfl) (fun _ _ _ h => h) (Or.inl ⟨by rfl, ?_⟩) hS ?_
    rotate_left
    · (intro w hSw; (try dsimp only at hSw); go_simp; try (with_reducible rfl))
    try simp only [Act.put]
    refine wpAnyH_ready (rs := [6]) (by kernel_rfl) (by simp) ?_
    refine (AllReadyH.cons rfl (fun K hK => ?_) AllReadyH.nil)
    go_simp
    go_wp2_with (go_at_call 32; refine HCl.out.mono ?_; rintro e' w1 ⟨v1, rfl, r1, hb1, n1⟩; obtain ⟨na, nc, rfl, _, _⟩ := r1.slice; rw [HLl.out] at r1 n1 ⊢; replace hb1 : Below w.heap.size w w1 := (Below.refl w.heap.size w).drew.trans hb1; obtain ⟨w2, hr2, hM2, hF2⟩ := (HM.out.on hb1).put hn1 (.slice na 512 nc) (HE.out _))
    refine hK.out _ _ (cell_on hb1 x10) (fun hS => ?_)
    clear hK K
    try simp only [Act.put, List.setIfInBounds_toArray, List.set_cons_zero, List.set_cons_succ]
    refine wpAnyH_ready (rs := [7]) (by kernel_rfl) (by simp) ?_
    refine (AllReadyH.cons rfl (fun K hK => ?_) AllReadyH.nil)
    go_simp
    refine hK.out _ _ (hF2.cell (cell_on hb1 x10) (by simpa using hPo)) (fun hS => ?_)
    clear hK K
    try simp only [Act.put, List.setIfInBounds_toArray, List.set_cons_zero, List.set_cons_succ]
    refine wpAnyH_done (by kernel_rfl) ?_ _
    have HX : Hid (TwP w P D md lb c st vc ve vp cnt ob ma 0 mc tl E n l na nc w2) := ⟨(HP.out.on hb1).fr hF2 (by simpa using hPo), hM2, hF2.rw r1 (fun k hk hm => by simp at hm; have h8 : w.heap.size ≤ k := n1 k hk; have := HM.out.lt; omega), fun k hk => n1 k hk, (Fr.of_below hb1).trans hF2 (fun k hk => .inl hk)⟩
    go_wp2_with fail
    go_meet
    exact ⟨na, nc, HX.out⟩
  case rest =>
    obtain ⟨na, nc, hX⟩ := hcut
    have HX := Hid.mk' hX
    have HC := Hid.mk' (hX.1.recnt m)
    obtain ⟨_, _, _, y9, _, _, _⟩ := hX.1.tx
    have fz := hX.1.frz 9
    clear hX x9 x10 x11 HCl HP HM
    go_wp2
    go_end0
    refine ⟨na, nc, rfl, HC.out.1, HX.out.2.1.fr HC.out.2 (by simpa using hPo.symm), HC.out.2.rw HX.out.2.2.1 (fun k hk hm => ?_), HX.out.2.2.2.1, (HX.out.2.2.2.2.mono (fun k hk => .inl (by simp at hk; simp [hk]))).trans HC.out.2 (fun k hk => .inl (by simp at hk; simp [hk]))⟩
    simp at hm
    have := HX.out.2.2.2.1 k hk
    have := HLt.out
    omega

set_option maxRecDepth 100000 in
set_option maxHeartbeats 1000000 in
theorem write_ok' {w : World} {P D : Nat} {md : Int} {lb : Nat} {c st vc ve : Int} {vp : Option Nat} {cnt : Int} {ob : Nat} {ma : Option Addr} {mc : Nat} {tl : Int} {E : List (Nat × Value)} {lv : M.Lv} (hP : Pg w P D md lb c st vc ve vp cnt (some ob) ma 0 mc tl) (hst : st = 2 ∨ st = 3) (hT : Tb w lb 105 lv) (hq : (lv.up c 2).1 = 0) (hne : P ≠ lb) (hM : Mo w ob E) (hPo : P ≠ ob) (hlo : lb ≠ ob) (n : Nat) (hn : n ≤ 4095) (hE : E.length ≤ 4900) (a : Option Addr) (ac : Nat) (l : List Nat) (hl : l.length = 512) (hs : Sees w (.slice a 512 ac) l) (ha : ∀ x, a = some x → x.block ≠ P ∧ x.block ≠ lb) (m : Int) (hm : max cnt ((n : Int) + 1) = m) :
    Calls Tryz.prog 23 #[.pointer (some ⟨P, 0, none⟩), .int .i64 (n : Int), .slice a 512 ac] w fun e w' => ∃ na nc, e = .returned (.int .i64 0) ∧ Pg w' P D md lb c 3 vc ve vp m (some ob) ma 0 mc tl ∧ Tb w' lb 105 (lv.up c 2).2 ∧ Mo w' ob (putE n (.slice na 512 nc) E) ∧ Rw w' (.slice na 512 nc) l ∧ (∀ k, (Value.slice na 512 nc).ownBlock = some k → w.heap.size ≤ k) ∧ Fr [P, lb, ob] w w' := by
  have HI := Hid.mk' (inside_any (P := P) (st := st) (by omega) hP.c5)
  rw [show insE st = 0 by unfold insE; rw [if_neg (by omega), if_neg (by omega)]] at HI
  have HN := Hid.mk' (ispage_any (n : Int) w)
  rw [show isPg (n : Int) = true by unfold isPg; simp; omega] at HN
  have HR := Hid.mk' (reserve_ok hP hT hne hq)
  have HM := Hid.mk' hM
  have HS := Hid.mk' hs
  have HA := Hid.mk' ha
  have HLl := Hid.mk' hl
  clear hP hT hq hM hs ha hst hl
  go_enter Tryz.func23, Tryz.ntmps23
  go_wp2_with fail
  refine HI.out.mono ?_
  rintro e w1 ⟨rfl, hw⟩
  obtain rfl := hw.symm
  clear hw HI
  go_wp2_with fail
  refine HN.out.mono ?_
  rintro e w1 ⟨rfl, hw⟩
  obtain rfl := hw.symm
  clear hw HN
  go_wp2_with fail
  refine HR.out.mono ?_
  rintro e w2 ⟨rfl, hP2, hT2, hF2⟩
  have HT2 := Hid.mk' hT2
  have HF2 := Hid.mk' hF2
  have hfs : ob ∉ [P, lb] := by simp; exact ⟨hPo.symm, hlo.symm⟩
  have HTw := Hid.mk' (twrite_ok hP2 (HM.out.fr hF2 hfs) hPo n hn hE a ac l HLl.out (hF2.sees HS.out (fun x _ _ e hm => by
    obtain ⟨rfl, _, _⟩ := by simpa using e
    have := HA.out x rfl
    simp at hm
    omega)) m hm)
  clear hP2 hT2 hF2 HR hfs
  go_wp2_with fail
  refine HTw.out.mono ?_
  rintro e w3 ⟨na, nc, rfl, h1, h2, h3, h4, h5⟩
  have H1 := Hid.mk' h1
  have H2 := Hid.mk' h2
  have H3 := Hid.mk' h3
  have H4 := Hid.mk' h4
  have H5 := Hid.mk' h5
  clear h1 h2 h3 h4 h5 HTw
  go_wp2
  go_ret
  refine ⟨na, nc, rfl, H1.out, HT2.out.fr H5.out (by simp; exact ⟨hne.symm, hlo⟩), H2.out, H3.out, fun k hk => Nat.le_trans HF2.out.2.1 (H4.out k hk), (HF2.out.mono (fun k hk => .inl (by simp at hk; rcases hk with h | h <;> simp [h]))).trans H5.out (fun k hk => .inl (by simp at hk; rcases hk with h | h <;> simp [h]))⟩
end Go.Proofs.YtjimhikfmccicaaGreat
namespace Go.Proofs.YtjimhikfmccicaaGreat
open Go.RowKit Go.Maps Go.Sort Go.Shelf

theorem owns_leaf {w : World} {base : Nat} {v : Value} {k : Nat} {u : Value} (h : w.ownsRow base 128 2 v 1 (lfC [(k, u)])) :
    ∃ g c, v = .slice (some ⟨g, 0, none⟩) 1 c ∧ 1 ≤ c ∧ c ≤ 9223372036854775807 ∧ base ≤ g ∧ w.cell? ⟨g, 0, none⟩ = some (.int .i64 (k : Int)) ∧ w.cell? ⟨g, 1, none⟩ = some u := by
  rcases h.2 with ⟨_, h0⟩ | ⟨g, cap, cur, rfl, hb, _, hn, hm, _⟩
  · cases h0
  · have ha : ∀ q, (⟨g, 0, none⟩ : Addr).add q = ⟨g, q, none⟩ := fun q => by unfold Addr.add; split <;> simp_all
    have k1 := h.cells (g := g) rfl 0 (.int .i64 (k : Int)) rfl
    have k2 := h.cells (g := g) rfl 1 u rfl
    rw [ha] at k1 k2
    exact ⟨g, cap, rfl, hn, by unfold maxLen at hm; omega, hb, k1, k2⟩

/-- How save leaves it all. -/
def SaP (w : World) (P D : Nat) (lb : Nat) (c vc ve : Int) (vp : Option Nat) (cnt : Int) (ob : Nat) (ma : Option Addr) (mn mc : Nat) (tl : Int) (m : Nat) (A5 : List AF) (F : List Nat) (lv : M.Lv) (w' : World) : Prop :=
  ∃ F', Dz w' D m A5 F' ∧ (∀ x ∈ F', x ∈ F ∨ w.heap.size ≤ x) ∧ Pg w' P D 1 lb c 3 vc ve vp cnt (some ob) ma mn mc tl ∧ Tb w' lb 105 lv ∧ Fr (lb :: F) w w'

set_option maxRecDepth 100000 in
set_option maxHeartbeats 2000000 in
theorem save_one {w : World} {P D n : Nat} {A : List AF} {F : List Nat} {lb : Nat} {c vc ve : Int} {vp : Option Nat} {cnt : Int} {ob : Nat} {ma : Option Addr} {mn mc : Nat} {tl : Int} {lv : M.Lv} (hD : Dz w D n A F) (hn : n ≤ 999990) (hP : Pg w P D 1 lb c 3 vc ve vp cnt (some ob) ma mn mc tl) (hT : Tb w lb 105 lv) (hq : (lv.up c 4).1 = 0) (hne : P ≠ lb) (hPF : P ∉ F) (hlF : lb ∉ F) (k : Nat) (hk : k ≤ 4095) (na : Option Addr) (nc : Nat) (l : List Nat) (hM : Mo w ob [(k, .slice na 512 nc)]) (hR : Rw w (.slice na 512 nc) l) (hll : l.length = 512) (hna : ∀ x, na = some x → x.block ∉ F ∧ x.block ≠ lb) (hob : ob ≠ lb) (hl : M.has (nmA A) logN = false) (hcnt : cntA A ≤ k) {A5 : List AF} (hRp : RepP A k l A5) :
    Calls Tryz.prog 45 #[.pointer (some ⟨P, 0, none⟩)] w fun e w' => e = .returned (.int .i64 0) ∧ SaP w P D lb c vc ve vp cnt ob ma mn mc tl (n + 5) A5 F (lv.up c 4).2 w' := by
  have HA := Hid.mk' (alone_ok hP hT hne hq)
  have x5 := hP.c5
  have HP := Hid.mk' hP
  have HD := Hid.mk' hD
  have HM := Hid.mk' hM
  have HRw := Hid.mk' hR
  have HLl := Hid.mk' hll
  have HNa := Hid.mk' hna
  have HL := Hid.mk' hl
  have HRp := Hid.mk' hRp
  have HC := Hid.mk' hcnt
  have HFl := Hid.mk' hD.lt
  have hlb : Hid (lb < w.heap.size) := hT.lt
  clear hP hD hM hR hll hna hl hRp hcnt hT hq
  go_enter Tryz.func45, Tryz.ntmps45
  go_wp2_with fail
  refine HA.out.mono ?_
  rintro e w1 ⟨rfl, hT1, hF1⟩
  have HT1 := Hid.mk' hT1
  have HF1 := Hid.mk' hF1
  have HP1 := Hid.mk' (HP.out.fr hF1 (by simpa using hne))
  have HD1 := Hid.mk' (HD.out.fr hF1 (fun k hk hm => by simp at hm; subst hm; exact hlF hk))
  obtain ⟨_, _, _, _, x10, _, _⟩ := HP1.out.tx
  have HPg := Hid.mk' (tpages_any (HM.out.fr hF1 (by simpa using hob)) x10 (List.pairwise_singleton _ _) (fun e he => by
    simp at he
    subst he
    exact ⟨by simp; omega, na, 512, nc, rfl⟩) (by simp))
  have HS1 : Hid (Sees w1 (.slice na 512 nc) l) := hF1.sees HRw.out.sees (fun x _ _ e hm => by
    simp at e
    have := (HNa.out x e.1).2
    simp at hm
    omega)
  clear hT1 hF1 x5 x10 HA
  go_wp2_with fail
  refine HPg.out.mono ?_
  rintro e w2 ⟨v, rfl, hrow, hb2⟩
  obtain ⟨g0, c0, rfl, hc1, hc2, hg0, r0, r1⟩ := owns_leaf hrow
  have hsz : w.heap.size ≤ w1.heap.size := HF1.out.2.1
  have HB2 := Hid.mk' hb2
  have x2 := (HP1.out.on hb2).c2
  have HRe := Hid.mk' (replace_one (HD1.out.on hb2) (HP1.out.on hb2).ss hPF hn HL.out g0 c0 k na nc l HLl.out hc1 hc2 r0 r1 (HS1.out.below hb2) (fun hm => by have := HFl.out _ hm; omega) (fun x hx => (HNa.out x hx).1) hk HC.out HRp.out)
  clear hrow hb2 HPg r0 r1
  go_wp2_with fail
  refine HRe.out.mono ?_
  rintro e w3 ⟨rfl, hM3⟩
  have HK : Hid (SaP w P D lb c vc ve vp cnt ob ma mn mc tl (n + 5) A5 F (lv.up c 4).2 w3) := by
    obtain ⟨F', hz, hF, hn'⟩ := hM3
    have h2 := HB2.out.size
    refine ⟨F', hz, fun x hx => (hn' x hx).imp id (fun h => by omega), (HP1.out.on HB2.out).fr hF hPF, (HT1.out.below HB2.out).fr hF hlF, ?_⟩
    refine ((HF1.out.mono (fun q hq => .inl (by simp at hq; simp [hq]))).trans (Fr.of_below (fs := lb :: F) HB2.out) (fun q hq => .inl hq)).trans (hF.mono (fun q hq => .inl (List.mem_cons_of_mem _ hq))) (fun q hq => .inl hq)
  have HRf : Hid (Calls Tryz.prog 43 #[.pointer (some ⟨P, 0, none⟩)] w3 fun e w' => e = .returned (.int .i64 0) ∧ w' = w3) := by
    obtain ⟨_, _, _, hP3, _⟩ := HK.out
    exact refused_any hP3.c1
  clear hM3 HRe x2
  go_wp2_with fail
  refine HRf.out.mono ?_
  rintro e w4 ⟨rfl, hw⟩
  obtain rfl := hw.symm
  clear hw HRf
  go_wp2
  go_ret
  exact ⟨rfl, HK.out⟩

set_option maxRecDepth 100000 in
set_option maxHeartbeats 1000000 in
theorem commit_of {w : World} {P D m : Nat} {A5 : List AF} {F : List Nat} {lb : Nat} {c vc ve : Int} {vp : Option Nat} {cnt : Int} {ob : Nat} {ma : Option Addr} {mn mc : Nat} {tl : Int} {lv : M.Lv} (x5 : w.cell? ⟨P, 5, none⟩ = some (.int .i64 3)) (hne : P ≠ lb) (hPF : P ∉ F) (hPl : P < w.heap.size) (hlF : lb ∉ F) (hll : lb < w.heap.size)
    (hS : Calls Tryz.prog 45 #[.pointer (some ⟨P, 0, none⟩)] w fun e w' => e = .returned (.int .i64 0) ∧ SaP w P D lb c vc ve vp cnt ob ma mn mc tl m A5 F lv w') :
    Calls Tryz.prog 21 #[.pointer (some ⟨P, 0, none⟩)] w fun e w' => e = .returned (.int .i64 0) ∧ ∃ F', Dz w' D m A5 F' ∧ (∀ x ∈ F', x ∈ F ∨ w.heap.size ≤ x) ∧ Pg w' P D 1 lb c 1 0 0 none 0 none none 0 0 0 ∧ Tb w' lb 105 (lv.down c 0).2 ∧ Fr (P :: lb :: F) w w' := by
  have HI := Hid.mk' (inside_any (P := P) (st := 3) (by omega) x5)
  rw [show insE 3 = 0 from rfl] at HI
  have HS := Hid.mk' hS
  clear hS x5
  go_enter Tryz.func21, Tryz.ntmps21
  go_wp2_with fail
  refine HI.out.mono ?_
  rintro e w1 ⟨rfl, hw⟩
  obtain rfl := hw.symm
  clear hw HI
  go_wp2_with fail
  refine HS.out.mono ?_
  rintro e w2 ⟨rfl, hK⟩
  have HE : Hid (Calls Tryz.prog 34 #[.pointer (some ⟨P, 0, none⟩), .int .i64 1] w2 fun e w' => e = .returned (.tuple #[]) ∧ ∃ F', Dz w' D m A5 F' ∧ (∀ x ∈ F', x ∈ F ∨ w.heap.size ≤ x) ∧ Pg w' P D 1 lb c 1 0 0 none 0 none none 0 0 0 ∧ Tb w' lb 105 (lv.down c 0).2 ∧ Fr (P :: lb :: F) w w') := by
    obtain ⟨F', hz, hn', hP2, hT2, hF2⟩ := hK
    refine (end_any hP2 hT2 hne 1).mono ?_
    rintro e w3 ⟨rfl, hP3, hT3, hF3⟩
    refine ⟨rfl, F', hz.fr hF3 (fun q hq hm => ?_), hn', hP3, hT3, (hF2.mono (fun q hq => .inl (List.mem_cons_of_mem _ hq))).trans hF3 (fun q hq => .inl (by simp at hq; rcases hq with rfl | rfl <;> simp))⟩
    simp at hm
    rcases hm with rfl | rfl
    · exact (hn' _ hq).elim hPF (fun h => by omega)
    · exact (hn' _ hq).elim hlF (fun h => by omega)
  clear hK HS
  go_wp2_with fail
  refine HE.out.mono ?_
  rintro e w3 ⟨rfl, h3⟩
  have H3 := Hid.mk' h3
  clear h3 HE
  go_wp2
  go_ret
  exact ⟨rfl, H3.out⟩

set_option maxRecDepth 100000 in
set_option maxHeartbeats 1000000 in
theorem commit_bad {w : World} {P : Nat} {er : Int} {Q : World → Prop} (x5 : w.cell? ⟨P, 5, none⟩ = some (.int .i64 3)) (he0 : er ≠ 0)
    (hS : Calls Tryz.prog 45 #[.pointer (some ⟨P, 0, none⟩)] w fun e w' => e = .returned (.int .i64 er) ∧ Q w') :
    Calls Tryz.prog 21 #[.pointer (some ⟨P, 0, none⟩)] w fun e w' => e = .returned (.int .i64 er) ∧ Q w' := by
  have HI := Hid.mk' (inside_any (P := P) (st := 3) (by omega) x5)
  rw [show insE 3 = 0 from rfl] at HI
  have HS := Hid.mk' hS
  have hb : (er == 0) = false := by rw [beq_eq_false_iff_ne]; exact he0
  clear hS x5 he0
  go_enter Tryz.func21, Tryz.ntmps21
  go_wp2_with fail
  refine HI.out.mono ?_
  rintro e w1 ⟨rfl, hw⟩
  obtain rfl := hw.symm
  clear hw HI
  go_wp2_with fail
  refine HS.out.mono ?_
  rintro e w2 ⟨rfl, hP2⟩
  have HP2 := Hid.mk' hP2
  clear hP2 HS
  go_wp2
  go_ret
  exact ⟨rfl, HP2.out⟩

theorem put_nil (l : List Nat) : M.put [] 0 l = l := by unfold M.put; simp [M.sz]
theorem rep_first (l : List Nat) : RepP [] 0 l [(baseN, l, l)] := by
  have e0 : cntA [] = 0 := by decide
  have hjb : M.has [jourN] baseN = false := by decide
  have hpb : M.pos [jourN] baseN = 0 := by kernel_rfl
  have hjj : M.has [jourN] jourN = true := by decide
  have hpj : M.pos [jourN] jourN = 0 := by kernel_rfl
  have hbb : M.has [baseN, jourN] baseN = true := by decide
  have hqb : M.pos [baseN, jourN] baseN = 0 := by kernel_rfl
  have hbj : M.has [baseN, jourN] jourN = true := by decide
  have hqj : M.pos [baseN, jourN] jourN = 1 := by kernel_rfl
  have hlt : M.less baseN jourN = true := by kernel_rfl
  unfold RepP
  rw [e0]
  generalize encN 1 0 0 = E
  have m1 : mWrite [] jourN 0 E = (0, [(jourN, [], E)], [(jourN, [], E)]) := by
    unfold mWrite
    rw [show nmA [] = [] from rfl, show M.has [] jourN = false from rfl, show M.pos [] jourN = 0 from rfl, put_nil]
    rfl
  have m2 : (mSync [(jourN, [], E)] jourN).2.1 = [(jourN, E, E)] := by
    unfold mSync
    rw [show nmA [(jourN, [], E)] = [jourN] from rfl, hjj, hpj]
    rfl
  have m3 : mWrite [(jourN, E, E)] baseN (0 * 512) l = (0, [(baseN, [], l), (jourN, E, E)], [(baseN, [], l), (jourN, E, E)]) := by
    unfold mWrite
    rw [show nmA [(jourN, E, E)] = [jourN] from rfl, hjb, hpb, Nat.zero_mul, put_nil]
    rfl
  have m4 : (mSync [(baseN, [], l), (jourN, E, E)] baseN).2.1 = [(baseN, l, l), (jourN, E, E)] := by
    unfold mSync
    rw [show nmA [(baseN, [], l), (jourN, E, E)] = [baseN, jourN] from rfl, hbb, hqb]
    rfl
  have m5 : (mDel [(baseN, l, l), (jourN, E, E)] jourN).2.1 = [(baseN, l, l)] := by
    unfold mDel
    rw [show nmA [(baseN, l, l), (jourN, E, E)] = [baseN, jourN] from rfl, hbj, hqj]
    rfl
  have r1 : M.rise [jourN] := List.pairwise_singleton _ _
  have r2 : M.rise [baseN, jourN] := List.Pairwise.cons (fun x hx => by simp at hx; subst hx; exact hlt) (List.pairwise_singleton _ _)
  have r3 : M.rise [baseN] := List.pairwise_singleton _ _
  exact ⟨[(jourN, [], E)], [(jourN, E, E)], [(baseN, [], l), (jourN, E, E)], [(baseN, l, l), (jourN, E, E)], ⟨by rw [m1], by rw [m1]⟩, r1, hjj, m2, r1, ⟨by rw [m3], by rw [m3]⟩, r2, hbb, m4, r2, hbj, m5, r3⟩
theorem pageB_self (l : List Nat) (h : l.length = 512) : pageB l 0 = l := by
  unfold pageB
  rw [Nat.zero_mul, List.drop_zero, List.take_of_length_le (by omega), h, List.drop_of_length_le (by rw [nul_length]; omega), List.append_nil]

set_option maxRecDepth 100000 in
set_option maxHeartbeats 2000000 in
theorem same_one {w : World} {P D n : Nat} {A : List AF} {F : List Nat} {md : Int} {lb : Nat} (hD : Dz w D n A F) (hj : M.has (nmA A) jourN = false) (hl : seenA A logN = []) (hP : Pg w P D md lb 0 1 0 0 none 0 none none 0 0 0) (hT : Tb w lb 105 zeroL) (hne : P ≠ lb) (hPF : P ∉ F) (hlF : lb ∉ F) (l : List Nat) (hll : l.length = 512) (hb : seenA A baseN = l) (gw cw gp : Nat) (r0 : w.cell? ⟨gw, 0, none⟩ = some (.slice (some ⟨gp, 0, none⟩) 512 512)) (hs : Sees w (.slice (some ⟨gp, 0, none⟩) 512 512) l) (hgw : gw ∉ [P, lb]) (hgp : gp ∉ [P, lb]) :
    Calls Tryz.prog 27 #[.pointer (some ⟨P, 0, none⟩), .slice (some ⟨gw, 0, none⟩) 1 cw] w fun e w' => e = .returned (.bool true) ∧ Fr [P, lb] w w' := by
  have hcn : cntA A = 1 := by unfold cntA; rw [hb, hll]; rfl
  have HBe := Hid.mk' (begin_ok hD hj hl hP hT hne hlF rfl)
  rw [hcn] at HBe
  have HD := Hid.mk' hD
  have HS := Hid.mk' hs
  have HR0 := Hid.mk' r0
  have HSb := Hid.mk' hb
  have HLl := Hid.mk' hll
  have HgP := Hid.mk' hgp
  have HgW := Hid.mk' hgw
  clear hD hj hl hP hT hs r0 hb hll hcn hgp hgw
  go_enter Tryz.func27, Tryz.ntmps27
  go_wp2_with fail
  refine HBe.out.mono ?_
  rintro e w1 ⟨pb, ob, rfl, hP1, hpb, hob, _, hT1, hF1⟩
  have HP1 := Hid.mk' hP1
  have HMp := Hid.mk' (Mo.empty hpb)
  have HMo := Hid.mk' (Mo.empty hob)
  have HT1 := Hid.mk' hT1
  have HF1 := Hid.mk' hF1
  have r0 := hF1.cell HR0.out HgW.out
  have HS1 : Hid (Sees w1 (.slice (some ⟨gp, 0, none⟩) 512 512) l) := hF1.sees HS.out (fun x _ _ e hm => by
    simp at e
    rw [← e.1] at hm
    exact HgP.out hm)
  have HD1 := Hid.mk' (HD.out.fr hF1 (fun k hk hm => by
    simp at hm
    rcases hm with rfl | rfl
    · exact hPF hk
    · exact hlF hk))
  clear hP1 hpb hob hT1 hF1 HBe
  go_wp2_with fail
  refine (num_any 0 w1).mono ?_
  rintro e w3 ⟨rfl, hw⟩
  obtain rfl := hw.symm
  clear hw
  have HCo := Hid.mk' (count_any (P := P) HP1.out.tx.2.2.2.1)
  go_wp2_with fail
  refine HCo.out.mono ?_
  rintro e w3 ⟨rfl, hw⟩
  obtain rfl := hw.symm
  clear hw HCo
  go_wp2
  go_loopw [5, 6] (fun u5 i wr => ∃ q : Nat, q ≤ 1 ∧ u5 = .bool true ∧ i = .int .i64 q ∧ Below w1.heap.size w1 wr) (fun _ i _ => 1 - (intOf i).toNat)
  case atStart => exact ⟨0, by omega, rfl, rfl, Below.refl _ _⟩
  case round =>
    obtain ⟨q, hq, rfl, rfl, hbr⟩ := hrel
    have HBr := Hid.mk' hbr
    by_cases hq0 : q = 0
    · subst hq0
      have HRd := Hid.mk' (read_base (HD1.out.on hbr) (HP1.out.on hbr) (.inl rfl) (HMp.out.on hbr) 0 (by omega) rfl (HMo.out.on hbr) rfl)
      rw [HSb.out, pageB_self l HLl.out] at HRd
      clear hbr
      go_wp2_with fail
      refine HRd.out.mono ?_
      rintro e w4 ⟨g, rfl, hr4, hg4, hb4⟩
      have HB4 := Hid.mk' (HBr.out.trans (hb4.mono HBr.out.size))
      have r4 := cell_on HB4.out r0
      have HEq := Hid.mk' (eq_any _ _ _ _ w4 hr4.sees (HS1.out.below HB4.out))
      clear hr4 hg4 hb4 HRd
      go_wp2_with fail
      refine (num_any 0 w4).mono ?_
      rintro e w5 ⟨rfl, hw⟩
      obtain rfl := hw.symm
      clear hw
      go_wp2_with fail
      refine HEq.out.mono ?_
      rintro e w5 ⟨rfl, nq, rfl⟩
      clear HEq
      go_wp2
      go_roundw
      case rel => exact ⟨1, by omega, rfl, rfl, below_drewN HB4.out nq⟩
      case measure => simp [intOf]
    · obtain rfl : q = 1 := by omega
      have HRb := Hid.mk' (rollback_ok (HP1.out.on hbr) (HT1.out.below hbr) hne (.inl rfl))
      clear hbr hq0
      go_wp2_with fail
      refine HRb.out.mono ?_
      rintro e w4 ⟨rfl, _, _, hF4⟩
      have HF4 := Hid.mk' (HF1.out.trans (Fr.of_below (fs := []) HBr.out) (fun k hk => by cases hk) |>.trans hF4 (fun k hk => .inl hk))
      clear hF4 HRb
      go_wp2_with fail
      refine (num_any 0 w4).mono ?_
      rintro e w5 ⟨rfl, hw⟩
      obtain rfl := hw.symm
      clear hw
      go_wp2
      go_ret
      exact ⟨rfl, HF4.out⟩

theorem seen_base (l : List Nat) : seenA [(baseN, l, l)] baseN = l := by
  unfold seenA
  rw [show nmA [(baseN, l, l)] = [baseN] from rfl, show M.has [baseN] baseN = true by decide, show M.pos [baseN] baseN = 0 by kernel_rfl]
  rfl
theorem up1 : zeroL.up 0 1 = (0, ⟨1, 0, 0, 0⟩) := rfl
theorem up2 : (⟨1, 0, 0, 0⟩ : M.Lv).up 0 2 = (0, ⟨2, 0, 0, 0⟩) := rfl
theorem up4 : (⟨2, 0, 0, 0⟩ : M.Lv).up 0 4 = (0, ⟨4, 0, 0, 0⟩) := rfl

set_option maxRecDepth 100000 in
set_option maxHeartbeats 2000000 in
theorem wakes_any (w : World) : Calls Tryz.prog 16 #[] w fun e w' => e = .returned (.bool true) ∧ Below w.heap.size w w' := by
  have HN := Hid.mk' (dnew_nil w)
  go_enter Tryz.func16, Tryz.ntmps16
  go_wp2_with fail
  refine HN.out.mono ?_
  rintro e w1 ⟨D, F, rfl, hD1, hF1, hb1⟩
  have HD1 := Hid.mk' hD1
  have HFl := Hid.mk' hD1.lt
  have HFw := Hid.mk' hF1
  have HB1 := Hid.mk' hb1
  clear hD1 hF1 hb1 HN
  go_wp2_with fail
  refine (num_any 0 w1).mono ?_
  rintro e w3 ⟨rfl, hw⟩
  obtain rfl := hw.symm
  clear hw
  have HO := Hid.mk' (lopen_ok HD1.out (by rfl) 1 (.inl rfl))
  go_wp2_with fail
  refine HO.out.mono ?_
  rintro e w2 ⟨P, lb, rfl, hP2, hT2, hne, hPs, hls, hb2⟩
  have HP2 := Hid.mk' hP2
  have HT2 := Hid.mk' hT2
  have HB2 := Hid.mk' (HB1.out.trans (hb2.mono HB1.out.size))
  have HD2 := Hid.mk' (HD1.out.on hb2)
  have hPF : P ∉ F := fun hm => by have := HFl.out _ hm; omega
  have hlF : lb ∉ F := fun hm => by have := HFl.out _ hm; omega
  have hPw : w.heap.size ≤ P := Nat.le_trans HB1.out.size hPs
  have hlw : w.heap.size ≤ lb := Nat.le_trans HB1.out.size hls
  have hP2l : P < w2.heap.size := hP2.lt
  have hl2l : lb < w2.heap.size := hT2.lt
  have HFl2 : Hid (∀ k ∈ F, k < w2.heap.size) := HD2.out.lt
  clear hP2 hT2 hb2 HO HD1 HFl hPs hls
  have HBe := Hid.mk' (begin_ok HD2.out (by rfl) (by rfl) HP2.out HT2.out hne hlF (by rw [up1]))
  rw [show cntA [] = 0 by decide, up1] at HBe
  go_wp2_with fail
  refine HBe.out.mono ?_
  rintro e w3 ⟨pb, ob, rfl, hP3, hpb, hob, ⟨_, ho3, _⟩, hT3, hF3⟩
  have HP3 := Hid.mk' hP3
  have HT3 := Hid.mk' hT3
  have HMo := Hid.mk' (Mo.empty hob)
  have HB3 := Hid.mk' (HB2.out.trans (hF3.below HB2.out.size (by simp; omega)))
  have HD3 := Hid.mk' (HD2.out.fr hF3 (fun k hk hm => by
    simp at hm
    rcases hm with rfl | rfl
    · exact hPF hk
    · exact hlF hk))
  have hs3 : w2.heap.size ≤ w3.heap.size := hF3.2.1
  have ho3l : ob < w3.heap.size := (Mo.empty hob).lt
  clear hP3 hT3 hpb hob hF3 HBe HD2 HP2 HT2
  go_wp2_with fail
  refine (num_any 0 w3).mono ?_
  rintro e w4 ⟨rfl, hw⟩
  obtain rfl := hw.symm
  clear hw
  go_wp2_with fail
  refine (page_any 3 w3).mono ?_
  rintro e w4 ⟨g, rfl, hr4, hg4, hb4⟩
  have HB4 := Hid.mk' (HB3.out.trans (hb4.mono HB3.out.size))
  have HD4 := Hid.mk' (HD3.out.on hb4)
  have hs4 := hb4.size
  have HWr := Hid.mk' (write_ok' (HP3.out.on hb4) (.inl rfl) (HT3.out.below hb4) (by rw [up2]) hne (HMo.out.on hb4) (by omega) (by omega) 0 (by omega) (by simp) (some ⟨g, 0, none⟩) 512 (pgL 3) (pgL_length 3) hr4.sees (fun x hx => by
    obtain rfl := by simpa using hx
    simp
    omega) 1 (by rfl))
  rw [up2] at HWr
  clear hr4 hb4 HP3 HT3 HMo HD3
  go_wp2_with fail
  refine HWr.out.mono ?_
  rintro e w5 ⟨na, nc, rfl, hP5, hT5, hM5, hR5, hn5, hF5⟩
  rw [show putE 0 (.slice na 512 nc) [] = [(0, .slice na 512 nc)] from rfl] at hM5
  have HP5 := Hid.mk' hP5
  have HB5 := Hid.mk' (HB4.out.trans (hF5.below HB4.out.size (by simp; omega)))
  have HD5 := Hid.mk' (HD4.out.fr hF5 (fun k hk hm => by
    have := HFl2.out k hk
    simp at hm
    rcases hm with rfl | rfl | rfl
    · exact hPF hk
    · exact hlF hk
    · omega))
  have hs5 : w4.heap.size ≤ w5.heap.size := hF5.2.1
  have HSv := Hid.mk' (commit_of hP5.c5 hne hPF (by omega) hlF (by omega) (save_one HD5.out (by omega) hP5 hT5 (by rw [up4]) hne hPF hlF 0 (by omega) na nc (pgL 3) hM5 hR5 (pgL_length 3) (fun x hx => by
    subst hx
    have := hn5 x.block rfl
    refine ⟨fun hm => ?_, by omega⟩
    have := HFl2.out _ hm
    omega) (by omega) (by rfl) (by decide) (rep_first _)))
  rw [up4] at HSv
  clear hP5 hT5 hM5 hR5 hn5 hF5 HWr HD4
  go_wp2_with fail
  refine (num_any 0 w5).mono ?_
  rintro e w6 ⟨rfl, hw⟩
  obtain rfl := hw.symm
  clear hw
  go_wp2_with fail
  refine HSv.out.mono ?_
  rintro e w6 ⟨rfl, F6, hD6, hF6n, _, _, hF6⟩
  have HD6 := Hid.mk' hD6
  have HB6 := Hid.mk' (HB5.out.trans (hF6.below HB5.out.size (by
    intro k hk
    simp at hk
    rcases hk with rfl | rfl | hk
    · exact hPw
    · exact hlw
    · exact HFw.out k hk)))
  have HFl6 := Hid.mk' hD6.lt
  clear hD6 hF6n hF6 HSv HD5 HP5
  go_wp2_with fail
  refine (num_any 0 w6).mono ?_
  rintro e w7 ⟨rfl, hw⟩
  obtain rfl := hw.symm
  clear hw
  have HO := Hid.mk' (lopen_ok HD6.out (by rfl) 2 (.inr rfl))
  go_wp2_with fail
  refine HO.out.mono ?_
  rintro e w7 ⟨Q, lc, rfl, hP7, hT7, hne7, hPs7, hls7, hb7⟩
  have HP7 := Hid.mk' hP7
  have HT7 := Hid.mk' hT7
  have HD7 := Hid.mk' (HD6.out.on hb7)
  have HB7 := Hid.mk' (HB6.out.trans (hb7.mono HB6.out.size))
  have hQl : Q < w7.heap.size := hP7.lt
  have hll : lc < w7.heap.size := hT7.lt
  clear hP7 hT7 hb7 HO
  go_wp2_with fail
  refine (page_any 3 w7).mono ?_
  rintro e w8 ⟨g8, rfl, hr8, hg8, hb8⟩
  have hb9 : Below w7.heap.size w7 (w8.alloc (.cells #[.slice (some ⟨g8, 0, none⟩) 512 512] 54)) := hb8.alloc hb8.size _
  have h8 := hb8.size
  have HB9 := Hid.mk' (HB7.out.trans (hb9.mono HB7.out.size))
  have HSm := Hid.mk' (same_one (HD7.out.on hb9) (by rfl) (by rfl) (HP7.out.on hb9) (HT7.out.below hb9) hne7 (fun hm => by have := HFl6.out _ hm; omega) (fun hm => by have := HFl6.out _ hm; omega) (pgL 3) (pgL_length 3) (seen_base _) w8.heap.size 1 g8 (by simp) (hr8.sees.below ((Below.refl _ _).alloc (Nat.le_refl _) _)) (by simp; omega) (by simp; omega))
  clear hr8 hb8 hb9
  go_wp2_with fail
  refine HSm.out.mono ?_
  rintro e w9 ⟨rfl, hF9⟩
  have h6 := HB6.out.size
  have HBz := Hid.mk' (HB9.out.trans (hF9.below HB9.out.size (by simp; omega)))
  clear hF9 HSm
  go_wp2
  go_ret
  exact ⟨rfl, HBz.out⟩

theorem Sd.st_ok {f : Int → Int} {A : List AF} {s : Nat} (q : S3) (h : f ((s : Int) + 1) = 0) (hq : q.1 = 0) : (⟨A, s, false, 0⟩ : Sd).st f q = ⟨q.2.1, s + 1, false, 0⟩ := by
  unfold Sd.st mSt Sd.kp
  simp [h, hq]
theorem Sd.wr0 (f : Int → Int) (A : List AF) (s : Nat) (o : Bool) (t : ByteArray) (p : Nat) (b : List Nat) : (⟨A, s, o, 0⟩ : Sd).wr f t p b = (⟨A, s, o, 0⟩ : Sd).st f (mWrite A t p b) := by unfold Sd.wr; rw [if_pos rfl]
theorem Sd.sy0 (f : Int → Int) (A : List AF) (s : Nat) (t : ByteArray) (h : M.has (nmA A) t = true) : (⟨A, s, false, 0⟩ : Sd).sy f t = (⟨A, s, false, 0⟩ : Sd).st f (mSync A t) := by
  unfold Sd.sy Sd.has
  simp [h]
end Go.Proofs.YtjimhikfmccicaaGreat
