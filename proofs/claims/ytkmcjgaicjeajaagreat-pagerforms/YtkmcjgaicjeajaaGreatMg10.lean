/-
  The contract of Read of a page that the transaction has not written, and that lies in base.
  The contract of guard where no page is kept.
  The contract of a transaction's pages: its own pages, their numbers rising.
  The contracts of store.pages without numbers, and of lay of one page.
-/
import Derived.Test.YtkmcjgaicjeajaaGreatTq
import Derived.Test.YtkmcjgaicjeajaaGreatTf
import Derived.Test.YtkmcjgaicjeajaaGreatKs
import Derived.Test.YtkmcjgaicjeajaaGreatMg6
namespace Go.Proofs.YtkmcjgaicjeajaaGreat
open Go.RowKit Go.Maps Go.Sort Go.Shelf

set_option maxRecDepth 100000 in
set_option maxHeartbeats 1000000 in
theorem read_base {w : World} {P D n : Nat} {A : List AF} {F : List Nat} {md : Int} {lb : Nat} {c st vc ve : Int} {pb : Nat} {cnt : Int} {ob : Nat} {ma : Option Addr} {mn mc : Nat} {tl : Int} {E Ep : List (Nat × Value)} (h : Dz w D n A F) (hP : Pg w P D md lb c st vc ve (some pb) cnt (some ob) ma mn mc tl) (hst : st = 2 ∨ st = 3) (hMp : Mo w pb Ep) (k : Nat) (hk : k ≤ 4095) (hEp : Ep.find? (fun e => decide (e.1 = k)) = none) (hM : Mo w ob E) (hE : E.find? (fun e => decide (e.1 = k)) = none) :
    Calls Tryz.prog 20 #[.pointer (some ⟨P, 0, none⟩), .int .i64 (k : Int)] w fun e w' => ∃ g, e = .returned (.tuple #[.slice (some ⟨g, 0, none⟩) 512 512, .int .i64 0]) ∧ Rw w' (.slice (some ⟨g, 0, none⟩) 512 512) (pageB (seenA A baseN) k) ∧ w.heap.size ≤ g ∧ Below w.heap.size w w' := by
  have HI := Hid.mk' (inside_any (P := P) (st := st) (by omega) hP.c5)
  rw [show insE st = 0 by unfold insE; rw [if_neg (by omega), if_neg (by omega)]] at HI
  have HN := Hid.mk' (ispage_any (k : Int) w)
  rw [show isPg (k : Int) = true by unfold isPg; simp; omega] at HN
  obtain ⟨x6, x7, x8, _, x10, _, _⟩ := hP.tx
  have hgt := hM.get true (k := k) (by omega)
  rw [hE] at hgt
  simp only [if_true] at hgt
  have HPb := Hid.mk' (fun (wx : World) (hb : Below w.heap.size w wx) => page_base (h.on hb) (hP.on hb).ss vc ve pb (hMp.on hb) k hk hEp)
  have HR := Hid.mk' (fun (wx : World) (hb : Below w.heap.size w wx) => refused_any (P := P) (hP.on hb).c1)
  clear h hM hE hMp hEp hst
  go_enter Tryz.func20, Tryz.ntmps20
  go_wp2_with fail
  refine HI.out.mono ?_
  rintro e w1 ⟨rfl, hw⟩
  obtain rfl := hw.symm
  clear hw HI
  go_wp2_with fail
  refine HN.out.mono ?_
  rintro e w1 ⟨rfl, hw⟩
  obtain rfl := hw.symm
  clear hw HN
  go_upto_region 9 with fail
  have hS := Hid.mk' (show (fun w' : World => w'.cell? ⟨P, 6, none⟩ = some (.int .i64 vc) ∧ w'.cell? ⟨P, 7, none⟩ = some (.int .i64 ve) ∧ w'.cell? ⟨P, 8, none⟩ = some (.map (some pb))) w from ⟨x6, x7, x8⟩)
  go_region_held3 (fun w' : World => w'.cell? ⟨P, 6, none⟩ = some (.int .i64 vc) ∧ w'.cell? ⟨P, 7, none⟩ = some (.int .i64 ve) ∧ w'.cell? ⟨P, 8, none⟩ = some (.map (some pb))) (first | exact hS.out | assumption | go_keep)
    (first | (go_at_call 48; refine (HPb.out w.drew (Below.drew (Below.refl _ _))).mono ?_; rintro e w4 ⟨g, rfl, hr, hg, hb⟩; have HRr := Hid.mk' hr; have HBr := Hid.mk' (show Below w.heap.size w w4 from (Below.drew (Below.refl _ _)).trans hb); have HGr := Hid.mk' (show w.heap.size ≤ g from hg); have hS := Hid.mk' (show (fun w' : World => w'.cell? ⟨P, 6, none⟩ = some (.int .i64 vc) ∧ w'.cell? ⟨P, 7, none⟩ = some (.int .i64 ve) ∧ w'.cell? ⟨P, 8, none⟩ = some (.map (some pb))) w4 from ⟨cell_on HBr.out x6, cell_on HBr.out x7, cell_on HBr.out x8⟩); clear hr hg hb))
  clear hS HPb hgt
  go_wp2_with fail
  refine (HR.out w4 HBr.out).mono ?_
  rintro e w5 ⟨rfl, hw⟩
  obtain rfl := hw.symm
  clear hw HR
  go_wp2
  go_ret2
  exact ⟨_, rfl, HRr.out, HGr.out, HBr.out⟩
end Go.Proofs.YtkmcjgaicjeajaaGreat
namespace Go.Proofs.YtkmcjgaicjeajaaGreat
open Go.RowKit Go.Maps

theorem dzm_step {w w1 w2 : World} {D m : Nat} {B : List AF} {F F1 : List Nat} (hF : Fr F w w1) (hn : ∀ k ∈ F1, k ∈ F ∨ w.heap.size ≤ k) (h2 : DzM w1 w2 D m B F1) : DzM w w2 D m B F := by
  obtain ⟨F2, hz2, hF2, hn2⟩ := h2
  refine ⟨F2, hz2, hF.trans hF2 (fun k hk => (hn k hk).imp id (fun h => h)), fun k hk => ?_⟩
  rcases hn2 k hk with h | h
  · exact hn k h
  · exact .inr (Nat.le_trans hF.2.1 h)

set_option maxRecDepth 100000 in
set_option maxHeartbeats 1000000 in
theorem guard_none {w : World} {P D n : Nat} {A : List AF} {F : List Nat} (h : Dz w D n A F) (hS : Ss w P D) (hP : P ∉ F) (hn : n ≤ 1000000 - 1) (kd cn pl : Nat) (h1 : kd ≤ 1000000000) (h2 : cn ≤ 1000000000) (h3 : pl ≤ 1000000000) {A1 A2 : List AF} (hw : (mWrite A jourN 0 (encN kd cn pl)).1 = 0 ∧ (mWrite A jourN 0 (encN kd cn pl)).2.1 = A1) (hq1 : M.rise (nmA A1)) (hh : M.has (nmA A1) jourN = true) (hs : (mSync A1 jourN).2.1 = A2) (hq2 : M.rise (nmA A2)) :
    Calls Tryz.prog 107 #[.pointer (some ⟨P, 0, none⟩), .agg #[.int .i64 (kd : Int), .int .i64 (cn : Int), .int .i64 (pl : Int), .slice none 0 0]] w fun e w' => e = .returned (.tuple #[]) ∧ DzM w w' D (n + 2) A2 F := by
  have HZ := Hid.mk' h
  have HS := Hid.mk' hS
  have HW := Hid.mk' hw
  have HH := Hid.mk' hh
  have HY := Hid.mk' hs
  have HF := Hid.mk' h.lt
  have HPl := Hid.mk' hS.lt
  clear h hS hw hh hs
  go_enter Tryz.func107, Tryz.ntmps107
  go_wp2_with fail
  refine (encode_none kd cn pl h1 h2 h3 _).mono ?_
  rintro e w1 ⟨g, rfl, hr, hg, hb⟩
  have HB1 : Hid (Below w.heap.size w w1) := ((Below.refl _ _).alloc (Nat.le_refl _) _).trans (hb.mono (by simp))
  have hg' : w.heap.size ≤ g := Nat.le_trans (by simp) hg
  have HWr := Hid.mk' (swrite_any (HZ.out.on HB1.out) (HS.out.on HB1.out) hP (by omega) jourN nam_jour 0 (some ⟨g, 0, none⟩) 64 (encN kd cn pl) 64 (encN_length _ _ _) hr.sees (fun a ha hk => by
    obtain rfl := by simpa using ha
    have := HF.out _ hk
    simp at this
    omega) (by omega) (by omega) HW.out hq1)
  clear hb hr hg
  go_wp2_with fail
  refine HWr.out.mono ?_
  rintro e w2 ⟨rfl, hM⟩
  have HM := Hid.mk' (hM.since HB1.out)
  clear hM HWr
  have HYr : Hid (Calls Tryz.prog 66 #[.pointer (some ⟨P, 0, none⟩), .string jourN] w2 fun e w' => e = .returned (.tuple #[]) ∧ DzM w w' D (n + 2) A2 F) := by
    obtain ⟨F2, hz, hF, hn2⟩ := HM.out
    refine (ssync_any hz (HS.out.fr hF hP) (fun hk => ?_) (by omega) jourN nam_jour HH.out HY.out hq2).mono ?_
    · rcases hn2 _ hk with h | h
      · exact hP h
      · have := HPl.out; omega
    · rintro e w3 ⟨rfl, hM3⟩
      exact ⟨rfl, dzm_step hF hn2 hM3⟩
  go_wp2_with fail
  refine HYr.out.mono ?_
  rintro e w3 ⟨rfl, hM3⟩
  have HM3 := Hid.mk' hM3
  clear hM3 HYr
  go_wp2
  go_end0
  exact ⟨rfl, HM3.out⟩
end Go.Proofs.YtkmcjgaicjeajaaGreat
namespace Go.Proofs.YtkmcjgaicjeajaaGreat
open Go.RowKit Go.Maps Go.Sort Go.Shelf

/-- The cells of pages with their numbers. -/
def lfC (E : List (Nat × Value)) : List Value := E.flatMap fun e => [.int .i64 (e.1 : Int), e.2]
theorem lfC_length (E : List (Nat × Value)) : (lfC E).length = E.length * 2 := by
  unfold lfC
  induction E with
  | nil => rfl
  | cons x E ih => rw [List.flatMap_cons, List.length_append, ih]; simp; omega
theorem lfC_succ (E : List (Nat × Value)) (k : Nat) (hk : k < E.length) : lfC (E.take (k + 1)) = lfC (E.take k) ++ [.int .i64 ((E[k]).1 : Int), (E[k]).2] := by
  rw [List.take_succ_eq_append_getElem hk]
  unfold lfC
  rw [List.flatMap_append]
  simp
theorem lfC_at (E : List (Nat × Value)) (j : Nat) (hj : j < E.length) : (lfC E)[j * 2]? = some (.int .i64 ((E[j]).1 : Int)) ∧ (lfC E)[j * 2 + 1]? = some (E[j]).2 := by
  induction E generalizing j with
  | nil => simp at hj
  | cons x E ih =>
    unfold lfC
    rw [List.flatMap_cons]
    cases j with
    | zero => simp
    | succ j =>
      have := ih j (by simpa using hj)
      unfold lfC at this
      rw [show (j + 1) * 2 = j * 2 + 1 + 1 by omega]
      simpa using this
theorem Tryz.info128 : (Tryz.prog.info? 128).map (fun i => (i.zero, i.size, i.bytes)) = some (some (.agg #[.int .i64 0, .slice none 0 0]), 2, 32) := by kernel_rfl
theorem src_leaf (w : World) (n : Int) (u : Value) (h1 : u.oneCell' = true) : Src Tryz.prog 2 118 (.slice (some ⟨w.heap.size, 0, none⟩) 1 1) 1 [.int .i64 n, u] (w.alloc (.cells #[.int .i64 n, u] 128)) := by
  refine Src.ofSlice _ Tryz.underlying118 ⟨w.heap.size, 0, none⟩ 1 1 _ rfl (fun j u' hj => ?_) (fun u' hu => ?_)
  · match j, hj with
    | 0, hj => simp at hj; subst hj; simp [Addr.add]
    | 1, hj => simp at hj; subst hj; simp [Addr.add]
  · simp at hu
    rcases hu with rfl | rfl
    · rfl
    · exact h1
theorem append_leaf (w : World) (base : Nat) (v : Value) (k : Nat) (xs : List Value) (n : Int) (u : Value) (h1 : u.oneCell' = true) (hown : w.ownsRow base 128 2 v k xs) (hb : k ≤ 10000) (hbase : base ≤ w.heap.size) :
    ∃ v' w', (Builtin.append_ #[118, 118] 118 #[v, .slice (some ⟨w.heap.size, 0, none⟩) 1 1]).run Tryz.prog (w.alloc (.cells #[.int .i64 n, u] 128)) = .ok v' w' ∧ w'.ownsRow base 128 2 v' (k + 1) (xs ++ [.int .i64 n, u]) ∧ (w.alloc (.cells #[.int .i64 n, u] 128)).grownBy w' v.ownBlock := by
  obtain ⟨i0, hi, hz0, hz1, hz2⟩ := info_parts Tryz.info128
  obtain ⟨v', w', h1, h2, h3, _⟩ := run_append_src (P := Tryz.prog) (w.alloc (.cells #[.int .i64 n, u] 128)) base 118 118 118 128 i0 _ 2 32 Tryz.underlying118 hi hz0 hz1 hz2 rfl v k xs (hown.alloc _) _ 1 _ (src_leaf w n u h1) (by unfold maxLen; omega) (by omega) (by simp; omega)
  exact ⟨v', w', h1, h2, h3⟩
theorem owns_ints {w : World} {base n : Nat} {v : Value} {xs : List Int} (h : w.ownsRow base 3 1 v n (xs.map encZ)) :
    ∃ a c, v = .slice a n c ∧ n ≤ c ∧ c ≤ 9223372036854775807 ∧ (1 ≤ n → ∃ g, a = some ⟨g, 0, none⟩ ∧ ∀ j (hj : j < xs.length), w.cell? ⟨g, j, none⟩ = some (.int .i64 xs[j])) := by
  rcases h.2 with ⟨rfl, h0⟩ | ⟨g, cap, cur, rfl, _, hg, hn, hm, _⟩
  · exact ⟨none, 0, by rw [h0], by omega, by omega, fun h1 => by omega⟩
  · refine ⟨some ⟨g, 0, none⟩, cap, rfl, hn, by unfold maxLen at hm; omega, fun _ => ⟨g, rfl, fun j hj => ?_⟩⟩
    have ha : ∀ q, (⟨g, 0, none⟩ : Addr).add q = ⟨g, q, none⟩ := fun q => by unfold Addr.add; split <;> simp_all
    have k1 := h.cells (g := g) rfl j (encZ xs[j]) (by simp [hj])
    rw [ha] at k1
    exact k1
theorem owns_low {w : World} {base b2 : Nat} {e : TypeId} {size : Nat} {v : Value} {n : Nat} {xs : List Value} (h : w.ownsRow base e size v n xs) (hb : b2 ≤ base) : w.ownsRow b2 e size v n xs := by
  refine ⟨h.1, h.2.imp id ?_⟩
  rintro ⟨g, cap, cur, hv, hg, hr⟩
  exact ⟨g, cap, cur, hv, Nat.le_trans hb hg, hr⟩
/-- The keys rise. -/
def risesE (E : List (Nat × Value)) : Prop := E.Pairwise (fun a b => a.1 < b.1)
theorem find_rise {E : List (Nat × Value)} (h : risesE E) (k : Nat) (hk : k < E.length) : E.find? (fun e => decide (e.1 = (E[k]).1)) = some E[k] := by
  rw [List.find?_eq_some_iff_getElem]
  refine ⟨by simp, k, hk, rfl, fun j hj => ?_⟩
  have := List.pairwise_iff_getElem.1 h j k (by omega) hk hj
  simp
  omega

set_option maxRecDepth 100000 in
set_option maxHeartbeats 1000000 in
theorem tpages_any {w : World} {P ob : Nat} {E : List (Nat × Value)} (hM : Mo w ob E) (x10 : w.cell? ⟨P, 10, none⟩ = some (.map (some ob))) (hE : risesE E) (hk : ∀ e ∈ E, e.1 ≤ 100000 ∧ ∃ a n c, e.2 = .slice a n c) (hl : E.length ≤ 4900) :
    Calls Tryz.prog 79 #[.pointer (some ⟨P, 6, none⟩)] w fun e w' => ∃ v', e = .returned v' ∧ w'.ownsRow w.heap.size 128 2 v' E.length (lfC E) ∧ Below w.heap.size w w' := by
  have HM := Hid.mk' hM
  have HE := Hid.mk' hE
  have HK := Hid.mk' hk
  have HSo := Hid.mk' (sorted_any ob 5000 (ents E) heldR w hM (by rw [size_ents]; omega))
  clear hM hE hk
  go_enter Tryz.func79, Tryz.ntmps79
  go_wp2_with fail
  refine (keys_any _ _).mono ?_
  rintro e w1 ⟨rfl, rfl⟩
  go_wp2_with fail
  refine HSo.out.mono ?_
  rintro e w2 ⟨v, ss, rfl, hp, hrow, _, hb⟩
  rw [intKeys_ents] at hp
  have hsk := sort_is hp (by
    rw [List.pairwise_map]
    exact HE.out.imp (fun h => by omega))
  have hln : ss.length = E.length := by rw [hp.length_eq, List.length_map]
  rw [hsk, hln] at hrow
  obtain ⟨a, c, rfl, hc, hcm, hcs⟩ := owns_ints hrow
  have HC := Hid.mk' hcs
  have HB2 : Hid (Below w.heap.size w w2) := ((Below.refl _ _).alloc (Nat.le_refl _) _).trans (hb.mono (by omega))
  clear hp hsk hln hrow hcs hb HSo
  go_wp2
  go_loopw [3, 13] (fun t i wr => ∃ k : Nat, k ≤ E.length ∧ i = .int .i64 k ∧ wr.ownsRow w2.heap.size 128 2 t k (lfC (E.take k)) ∧ Below w2.heap.size w2 wr) (fun _ i _ => E.length - (intOf i).toNat)
  case atStart => exact ⟨0, by omega, rfl, World.ownsRow_nil _ _ _ _, Below.refl _ _⟩
  case round =>
    obtain ⟨k, hk, rfl, hown, hbr⟩ := hrel
    have HBr := Hid.mk' (HB2.out.trans (hbr.mono HB2.out.size))
    have hsz := HBr.out.size
    by_cases hlt : k < E.length
    · obtain ⟨g, rfl, hrw⟩ := HC.out (by omega)
      have r0 := hrw k (by rw [List.length_map]; exact hlt)
      rw [List.getElem_map] at r0
      replace r0 := cell_on hbr r0
      have hle := (HK.out _ (List.getElem_mem hlt)).1
      obtain ⟨sa, sn, sc, hsl⟩ := (HK.out _ (List.getElem_mem hlt)).2
      have hgt := (HM.out.on HBr.out).get false hle
      rw [find_rise HE.out k hlt] at hgt
      simp only [Bool.false_eq_true, if_false] at hgt
      have HT := Hid.mk' (lfC_succ E k hlt)
      obtain ⟨kn, hkn⟩ : ∃ kn, (E[k]).1 = kn := ⟨_, rfl⟩
      rw [hkn, hsl] at HT
      rw [hkn, hsl] at hgt
      rw [hkn] at r0
      have x10' := cell_on HBr.out x10
      have HO := Hid.mk' (append_leaf wr w2.heap.size _ k _ (kn : Int) (.slice sa sn sc) rfl hown (by omega) hbr.size)
      have HLt := Hid.mk' (fun q hq => (hown.lt q hq).1)
      clear hrw hown hsl hkn hle
      go_wp2_with (at_builtin; refine wpList_append_run rfl _ _ 118 118 rfl _ _ rfl rfl HO.out ?_; rintro v5 w5 ⟨ho5, hg5⟩)
      go_roundw
      case rel =>
        refine ⟨k + 1, by omega, by go_num, by rw [HT.out]; exact ho5, ?_⟩
        exact (hbr.alloc hbr.size _).grown hg5 (by have := hbr.size; simp; omega) (fun q hq => HLt.out q hq)
      case measure => simp [intOf]; omega
    · have e : k = E.length := by omega
      have hown' := hown
      rw [e, List.take_of_length_le (by omega)] at hown'
      have HO := Hid.mk' hown'
      clear hown hown' e
      go_wp2
      go_ret
      exact ⟨_, rfl, owns_low HO.out HB2.out.size, HBr.out⟩
end Go.Proofs.YtkmcjgaicjeajaaGreat
namespace Go.Proofs.YtkmcjgaicjeajaaGreat
open Go.RowKit Go.Maps Go.Sort Go.Shelf

set_option maxRecDepth 100000 in
set_option maxHeartbeats 400000 in
theorem spages_nil (w : World) (P : Nat) (u : Value) (hu : ∃ a b c, u = .agg #[a, b, c]) : Calls Tryz.prog 83 #[.pointer (some ⟨P, 0, none⟩), u, .slice none 0 0] w fun e w' => e = .returned (.slice none 0 0) ∧ Below w.heap.size w w' := by
  obtain ⟨a, b, c, rfl⟩ := hu
  go_enter Tryz.func83, Tryz.ntmps83
  go_wp2
  go_loopw [7, 12] (fun v i wr => v = .slice none 0 0 ∧ i = .int .i64 0 ∧ Below w.heap.size w wr) (fun _ _ _ => 0)
  case atStart => exact ⟨rfl, rfl, (Below.refl _ _).alloc (Nat.le_refl _) _⟩
  case round =>
    obtain ⟨rfl, rfl, hb⟩ := hrel
    have HB := Hid.mk' hb
    clear hb
    go_wp2
    go_ret
    exact ⟨rfl, HB.out⟩

def lenV : Value → Nat
  | .slice _ n _ => n
  | _ => 0
set_option maxRecDepth 100000 in
set_option maxHeartbeats 1000000 in
theorem lay_one {w : World} {P D n : Nat} {A : List AF} {F : List Nat} (h : Dz w D n A F) (hS : Ss w P D) (hP : P ∉ F) (hn : n ≤ 1000000) (g0 c k : Nat) (a : Option Addr) (ac : Nat) (l : List Nat) (hl : l.length = 512) (hc : 1 ≤ c) (hcm : c ≤ 9223372036854775807) (r0 : w.cell? ⟨g0, 0, none⟩ = some (.int .i64 (k : Int))) (r1 : w.cell? ⟨g0, 1, none⟩ = some (.slice a 512 ac)) (hs : Sees w (.slice a 512 ac) l) (hk : k ≤ 4095) {A' : List AF} (hw : (mWrite A baseN (k * 512) l).1 = 0 ∧ (mWrite A baseN (k * 512) l).2.1 = A') (hq : M.rise (nmA A')) :
    Calls Tryz.prog 64 #[.pointer (some ⟨P, 0, none⟩), .slice (some ⟨g0, 0, none⟩) 1 c] w fun e w' => e = .returned (.tuple #[]) ∧ DzM w w' D (n + 1) A' F := by
  have HZ := Hid.mk' h
  have HS := Hid.mk' hS
  have HF := Hid.mk' h.lt
  have HW := Hid.mk' hw
  have HL := Hid.mk' hl
  have HAp := Hid.mk' (append_bytes w (.slice none 0 0) [] (World.ownsRow_nil _ _ _ _) (.slice a 512 ac) l hs (by simp; omega))
  clear h hS hs hw hl
  go_enter Tryz.func64, Tryz.ntmps64
  go_wp2
  refine wp_scope_on 0 rfl ?_
  go_wp2
  go_step3
  go_wp2
  go_loopw [1, 4] (fun u1 u4 wr => (u1 = .slice (some ⟨g0, 0, none⟩) 1 c ∧ u4 = .slice none 0 0 ∧ wr = w) ∨ (∃ a1 c1 a4 c4, u1 = .slice a1 0 c1 ∧ u4 = .slice a4 512 c4 ∧ Rw wr (.slice a4 512 c4) l ∧ (∀ x, a4 = some x → w.heap.size ≤ x.block) ∧ Below w.heap.size w wr)) (fun u1 _ _ => lenV u1)
  case atStart => exact .inl ⟨rfl, rfl, rfl⟩
  case round =>
    rcases hrel with ⟨rfl, rfl, hw⟩ | ⟨a1, c1, a4, c4, rfl, rfl, hr, ha, hb⟩
    · obtain rfl := hw.symm
      clear hw
      have HNw : Hid (∀ v5 w5, (w5.ownsRow 0 5 1 v5 ([] ++ l).length (([] ++ l).map B8) ∧ w.grownBy w5 (Value.slice none 0 0).ownBlock ∧ (v5.ownBlock = (Value.slice none 0 0).ownBlock ∨ v5.ownBlock = some w.heap.size)) → ∃ a4 c4, v5 = .slice a4 512 c4 ∧ Rw w5 (.slice a4 512 c4) l ∧ (∀ x, a4 = some x → w.heap.size ≤ x.block) ∧ Below w.heap.size w w5) := by
        show ∀ v5 w5, _
        rintro v5 w5 ⟨ho, hg, hk⟩
        rw [List.nil_append] at ho
        have hR : Rw w5 v5 l := ⟨ho, by rw [HL.out]; omega⟩
        obtain ⟨a4, c4, rfl, _, _⟩ := hR.slice
        rw [HL.out] at hR hk ⊢
        refine ⟨a4, c4, rfl, hR, fun x hx => ?_, (Below.refl _ _).grown hg (Nat.le_refl _) (fun q hq => by cases hq)⟩
        subst hx
        rcases hk with h | h
        · cases h
        · simp [Value.ownBlock] at h
          omega
      by_cases hc1 : c = 1
      · subst hc1
        go_wp2_with (at_builtin; refine wpList_append_run rfl _ _ 37 37 rfl _ _ rfl rfl HAp.out ?_; rintro v5 w5 h5)
        go_roundw
        case rel =>
          obtain ⟨a4, c4, rfl, hr4, ha4, hb4⟩ := HNw.out _ _ h5
          exact .inr ⟨_, _, a4, c4, rfl, rfl, hr4, ha4, hb4⟩
        case measure => simp [lenV]
      · go_wp2_with (at_builtin; refine wpList_append_run rfl _ _ 37 37 rfl _ _ rfl rfl HAp.out ?_; rintro v5 w5 h5)
        go_roundw
        case rel =>
          obtain ⟨a4, c4, rfl, hr4, ha4, hb4⟩ := HNw.out _ _ h5
          exact .inr ⟨_, _, a4, c4, rfl, rfl, hr4, ha4, hb4⟩
        case measure => simp [lenV]
    · have HB := Hid.mk' hb
      have HWr := Hid.mk' (swrite_any (HZ.out.on hb) (HS.out.on hb) hP hn baseN nam_base (k * 512) a4 c4 l 512 HL.out hr.sees (fun x hx hk => by
        have h1 := ha x hx
        have h2 := HF.out _ hk
        omega) (by omega) (by omega) HW.out hq)
      rw [show ((k * 512 : Nat) : Int) = (k : Int) * 512 by omega] at HWr
      clear hb hr ha HAp
      go_wp2_with fail
      refine HWr.out.mono ?_
      rintro e w2 ⟨rfl, hM⟩
      have HM := Hid.mk' (hM.since HB.out)
      clear hM HWr
      go_wp2
      go_step3
      refine ⟨rfl, ?_⟩
      go_wp2
      try rw [Exit.noGoto_ret]
      refine bodyPost_ret (results_none rfl _ _ _) rfl ?_
      exact ⟨rfl, HM.out⟩
end Go.Proofs.YtkmcjgaicjeajaaGreat
