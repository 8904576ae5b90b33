/-
  Numbers read back; the contract of leaves: the pages of a batch's bytes.
  The pager's store over any disk, whatever goes wrong with it, as plain data: keep, found, there, size, read, write, cut, sync, remove.
-/
import Derived.Test.YtjimhikfmccicaaGreatMg20
import Derived.Test.YtjimhikfmccicaaGreatMg18
import Derived.Test.YtjimhikfmccicaaGreatMg9
namespace Go.Proofs.YtjimhikfmccicaaGreat
open Go.RowKit Go.Maps Go.Sort Go.Shelf

theorem be_take (k N j : Nat) (hj : j < k) : (be k N).take (j + 1) = (be k N).take j ++ [N / 256 ^ (k - 1 - j) % 256] := by
  have hl : j < (be k N).length := by rw [be_length]; exact hj
  rw [List.take_succ_eq_append_getElem hl]
  congr 2
  simp [be]
theorem numL_be_take (k N j : Nat) (hN : N < 256 ^ k) (hj : j ≤ k) : numL ((be k N).take j) = N / 256 ^ (k - j) := by
  induction j with
  | zero => rw [List.take_zero, Nat.sub_zero, Nat.div_eq_of_lt hN]; rfl
  | succ j ih =>
    rw [be_take k N j (by omega), numL_push, ih (by omega)]
    have e : k - j = (k - 1 - j) + 1 := by omega
    rw [e, Nat.pow_succ, ← Nat.div_div_eq_div_mul, show k - (j + 1) = k - 1 - j by omega]
    omega
theorem numL_be (k N : Nat) (hN : N < 256 ^ k) : numL (be k N) = N := by
  have h := numL_be_take k N k hN (Nat.le_refl _)
  rw [List.take_of_length_le (by rw [be_length]; exact Nat.le_refl _), Nat.sub_self, Nat.pow_zero, Nat.div_one] at h
  exact h
theorem number_be {w : World} (a : Option Addr) (c k N : Nat) (hN : N < 256 ^ k) (hs : Sees w (.slice a k c) (be k N)) (hk : k ≤ 8) (hN9 : N ≤ 1000000000) :
    Calls Tryz.prog 93 #[.slice a k c] w fun e w' => e = .returned (.int .i64 (N : Int)) ∧ w' = w := by
  have h := number_any a c (be k N) k (be_length k N) hs (be_lt k N) (by omega) (fun j hj => by
    rw [numL_be_take k N j hN hj]
    have := Nat.div_le_self N (256 ^ (k - j))
    omega)
  rw [numL_be k N hN] at h
  exact h

/-- A scope whose label stands behind its first piece. -/
theorem wp_scope_mid {P : Program} {a : Act} {w : World} {Q : Exit → Act → World → Prop} {A body : Code} (l : Nat) (J : Act → World → Prop) (μ : Act → World → Nat) (hA : findLabel A l = none) (first : A.wp P (Exit.then J (fun _ _ _ => False)) a w)
    (pass : ∀ a w, J a w → body.wp P (Exit.jump l (fun a' w' => J a' w' ∧ μ a' w' < μ a w) Q) a w) : (Code.scope (.seq A (.seq (.label l) body))).wp P Q a w := by
  refine wp_scope_jumps (rest := .seq .skip body) l J μ (by simp [findLabel, hA]) (wp_seq (wp_mono first ?_)) (fun a w h => wp_seq (wp_skip (pass a w h)))
  intro e a' w' h
  cases e <;> first | exact h.elim | skip
  refine wp_seq (wp_label (wp_mono (pass a' w' h) ?_))
  intro e a' w' h
  cases e <;> first | exact h | exact ⟨h.1, h.2.1⟩
/-- A frame of leaves. -/
def lvT (u0 u1 u3 : Value) (U : Nat → Value) : Act := { tmps := #[u0, u1, .slice none 0 0, u3, U 4, U 5, U 6, U 7, U 8, U 9, U 10, U 11, U 12, U 13, U 14, U 15, U 16, U 17, U 18], defers := [] }
def LvJ (w : World) (b o c : Nat) (X : List (Nat × List Nat)) (a' : Act) (wr : World) : Prop :=
  ∃ (i r : Nat) (va : Option Addr) (vc : Nat) (pv : Value) (Y : List LF) (u1 : Value) (U : Nat → Value), a' = lvT (.slice va r vc) u1 pv U ∧ r + i * 520 = X.length * 520 ∧ (1 ≤ r → va = some ⟨b, o + i * 520, none⟩) ∧ vc + i * 520 = c ∧ Lfs wr w.heap.size pv Y ∧ Y.map pr = X.take i ∧ (∀ y ∈ Y, ∃ q c', y.2.1 = .slice (some ⟨b, q, none⟩) 512 c') ∧ Below w.heap.size w wr

set_option maxRecDepth 100000 in
set_option maxHeartbeats 2000000 in
theorem leaves_any {w : World} (b o c : Nat) (X : List (Nat × List Nat)) (hX : wholeB X) (hXn : ∀ x ∈ X, x.1 ≤ 1000000000) (n : Nat) (hn : X.length * 520 = n) (hc : n ≤ c) (hcm : c ≤ 9223372036854775807) (va0 : Option Addr) (hva0 : 1 ≤ n → va0 = some ⟨b, o, none⟩ ∧ b < w.heap.size) (hs : Sees w (.slice va0 n c) (lvB X)) (hXl : X.length ≤ 5000) :
    Calls Tryz.prog 94 #[.slice va0 n c] w fun e w' => ∃ v Y, e = .returned v ∧ Lfs w' w.heap.size v Y ∧ Y.map pr = X ∧ (∀ y ∈ Y, ∃ q c', y.2.1 = .slice (some ⟨b, q, none⟩) 512 c') ∧ Below w.heap.size w w' := by
  have HX := Hid.mk' hX
  have HXn := Hid.mk' hXn
  have HS := Hid.mk' hs
  have HV := Hid.mk' hva0
  have HN := Hid.mk' hn
  have HL := Hid.mk' (lvB_length hX)
  clear hX hXn hs hva0
  go_enter Tryz.func94, Tryz.ntmps94
  go_wp2
  refine wp_scope_mid 0 (LvJ w b o c X) (fun a' _ => lenV (a'.tmps.getD 0 undef)) rfl ?_ ?_
  · go_wp2
    exact ⟨0, n, va0, c, .slice none 0 0, [], _, fun _ => undef, rfl, by omega, fun h1 => by rw [Nat.zero_mul, Nat.add_zero]; exact (HV.out h1).1, by omega, ⟨World.ownsRow_nil _ _ _ _, fun x hx => by cases hx⟩, rfl, (fun y hy => by cases hy), Below.refl _ _⟩
  rintro act wr ⟨i, r, va, vc, pv, Y, u1, U, rfl, hri, hva, hvc, hY, hYe, hYb, hbr⟩
  unfold lvT
  have HY := Hid.mk' hY
  have HYe := Hid.mk' hYe
  have HYb := Hid.mk' hYb
  have HBr := Hid.mk' hbr
  clear hY hYe hYb hbr
  by_cases hr0 : r = 0
  · subst hr0
    have hiX : X.take i = X := List.take_of_length_le (by omega)
    have HE : Hid (Y.map pr = X) := by show _ = _; rw [HYe.out, hiX]
    clear hiX HYe
    go_wp2
    simp only [Exit.jump]
    go_ret
    exact ⟨_, Y, rfl, HY.out, HE.out, HYb.out, HBr.out⟩
  · have hi : i < X.length := by omega
    obtain rfl := hva (by omega)
    obtain ⟨hva1, hbw⟩ := HV.out (by omega)
    have hYl : Y.length = i := by
      have := congrArg List.length HYe.out
      simp at this
      omega
    have hkn := HXn.out _ (List.getElem_mem hi)
    have hpl := HX.out _ (List.getElem_mem hi)
    have HT : Hid (X.take (i + 1) = X.take i ++ [X[i]]) := List.take_succ_eq_append_getElem hi
    have hcut : (lvB X).drop (i * 520) = be 8 (X[i]).1 ++ ((X[i]).2 ++ lvB (X.drop (i + 1))) := by
      have e : X = X.take i ++ (X[i] :: X.drop (i + 1)) := by rw [← List.drop_eq_getElem_cons hi, List.take_append_drop]
      have e1 : lvB X = lvB (X.take i) ++ (be 8 (X[i]).1 ++ ((X[i]).2 ++ lvB (X.drop (i + 1)))) := by
        conv => lhs; rw [e]
        unfold lvB
        rw [List.flatMap_append, List.flatMap_cons, List.append_assoc]
      have e2 : (lvB (X.take i)).length = i * 520 := by
        rw [lvB_length (fun x hx => HX.out x (List.mem_of_mem_take hx)), List.length_take, Nat.min_eq_left (by omega)]
      rw [e1, List.drop_append_of_le_length (by omega), List.drop_of_length_le (by omega), List.nil_append]
    have hsr : Sees wr (.slice (some ⟨b, o + i * 520, none⟩) 8 vc) (be 8 (X[i]).1) := by
      have h9 := (HS.out.below HBr.out).part (i * 520) 8 vc (by rw [HL.out]; omega)
      rw [hva1, Option.map_some, Addr.add_lit, hcut, List.take_append_of_le_length (by rw [be_length]; omega), List.take_of_length_le (by rw [be_length]; omega)] at h9
      exact h9
    have HSp : Hid (Sees wr (.slice (some ⟨b, o + i * 520 + 8, none⟩) 512 (vc - 8)) (X[i]).2) := by
      have h9 := (HS.out.below HBr.out).part (i * 520 + 8) 512 (vc - 8) (by rw [HL.out]; omega)
      rw [hva1, Option.map_some, Addr.add_lit, ← List.drop_drop, hcut, List.drop_append_of_le_length (by rw [be_length]; omega), List.drop_of_length_le (by rw [be_length]; omega), List.nil_append, List.take_append_of_le_length (by rw [hpl.1]; omega), List.take_of_length_le (by rw [hpl.1]; omega), ← Nat.add_assoc] at h9
      exact h9
    have HXi : Hid (X[i] = ((X[i]).1, (X[i]).2)) := rfl
    have HPl := Hid.mk' hpl.1
    generalize hke : (X[i]).1 = kn at *
    generalize hpe : (X[i]).2 = pb at *
    have HXi : Hid (X[i] = (kn, pb)) := by show _ = _; rw [← hke, ← hpe]
    have HNu := Hid.mk' (number_be (some ⟨b, o + i * 520, none⟩) vc 8 kn (by omega) hsr.drew (by omega) hkn)
    have HO := Hid.mk' (append_leaf' wr.drew w.heap.size pv Y.length _ (kn : Int) (.slice (some ⟨b, o + i * 520 + 8, none⟩) 512 (vc - 8)) rfl (owns_keep HY.out.1 (Below.refl _ _).drew) (by omega) HBr.out.size)
    have HLt := Hid.mk' HY.out.1.lt
    have hrv : (r : Int) ≤ (vc : Int) := by omega
    have b8 : (8 : Int) ≤ (vc : Int) := by omega
    have b520 : (520 : Int) ≤ (vc : Int) := by omega
    have r520 : (520 : Int) ≤ (r : Int) := by omega
    have d8 : ¬ vc = 8 := by omega
    have hrb : ((r : Int) == 0) = false := by rw [beq_eq_false_iff_ne]; omega
    have hcmv : vc ≤ 9223372036854775807 := by omega
    clear hsr hpl hcut hva hke hpe hva1 hkn
    go_upto_region 4 with fail
    refine wp_region_held_drew (S := (fun _ : World => True)) (by kernel_rfl) (trivial) (fun hS => ?_)
    refine wpAnyH_take (i := 0) (v := ?_) rfl (by kernel_rfl) (by kernel_rfl) (by kernel_rfl) (fun _ _ _ h => h) (Or.inl ⟨by rfl, ?_⟩) hS ?_
    rotate_left
    · (intro w hSw; (try dsimp only at hSw); go_simp; try (with_reducible rfl))
    try simp only [Act.put, List.setIfInBounds_toArray]
    refine wpAnyH_take (i := 1) (v := ?_) rfl (by kernel_rfl) (by kernel_rfl) (by kernel_rfl) (fun _ _ _ h => h) (Or.inl ⟨by rfl, ?_⟩) hS ?_
    rotate_left
    · (intro w hSw; (try dsimp only at hSw); go_simp; try (with_reducible rfl))
    try simp only [Act.put]
    refine wpAnyH_take (i := 2) (v := ?_) rfl (by kernel_rfl) (by kernel_rfl) (by kernel_rfl) (fun _ _ _ h => h) (Or.inl ⟨by rfl, ?_⟩) hS ?_
    rotate_left
    · (intro w hSw; (try dsimp only at hSw); go_simp; try (with_reducible rfl))
    try simp only [Act.put]
    refine wpAnyH_take (i := 4) (v := ?_) rfl (by kernel_rfl) (by kernel_rfl) (by kernel_rfl) (fun _ _ _ h => h) (Or.inl ⟨by rfl, ?_⟩) hS ?_
    rotate_left
    · (intro w hSw; (try dsimp only at hSw); go_simp; try (with_reducible rfl))
    try simp only [Act.put]
    refine wpAnyH_take (i := 5) (v := ?_) rfl (by kernel_rfl) (by kernel_rfl) (by kernel_rfl) (fun _ _ _ h => h) (Or.inl ⟨by rfl, ?_⟩) hS ?_
    rotate_left
    · (intro w hSw; (try dsimp only at hSw); go_simp; try (with_reducible rfl))
    try simp only [Act.put]
    refine wpAnyH_ready (rs := [3]) (by kernel_rfl) (by simp) ?_
    refine (AllReadyH.cons rfl (fun K hK => ?_) AllReadyH.nil)
    go_simp
    go_wp2_with (go_at_call 93; refine HNu.out.mono ?_; rintro e w5 ⟨rfl, hw5⟩; obtain rfl := hw5.symm; clear hw5)
    refine hK.out _ _ trivial (fun hS => ?_)
    clear hK K
    try simp only [Act.put, List.setIfInBounds_toArray, List.set_cons_zero, List.set_cons_succ]
    refine wpAnyH_take (i := 6) (v := ?_) rfl (by kernel_rfl) (by kernel_rfl) (by kernel_rfl) (fun _ _ _ h => h) (Or.inl ⟨by rfl, ?_⟩) hS ?_
    rotate_left
    · (intro w hSw; (try dsimp only at hSw); go_simp; try (with_reducible rfl))
    try simp only [Act.put, List.setIfInBounds_toArray]
    refine wpAnyH_ready (rs := [7]) (by kernel_rfl) (by simp) ?_
    refine (AllReadyH.cons rfl (fun K hK => ?_) AllReadyH.nil)
    go_simp
    refine hK.out _ _ trivial (fun hS => ?_)
    clear hK K
    try simp only [Act.put, List.setIfInBounds_toArray, List.set_cons_zero, List.set_cons_succ]
    refine wpAnyH_ready (rs := [8]) (by kernel_rfl) (by simp) ?_
    refine (AllReadyH.cons rfl (fun K hK => ?_) AllReadyH.nil)
    refine step_append_ex (by rfl) _ _ 118 (by rfl) pv (.slice (some ⟨wr.heap.size, 0, none⟩) 1 1) (by rfl) (by rfl) HO.out ?_
    rintro v6 w6 ⟨ho6, hF6, hbk6⟩
    have HO6 := Hid.mk' ho6
    have HF6 := Hid.mk' hF6
    have HK6 := Hid.mk' hbk6
    clear ho6 hF6 hbk6
    refine hK.out _ _ trivial (fun hS => ?_)
    clear hK K
    try simp only [Act.put, List.setIfInBounds_toArray]
    refine wpAnyH_take (i := 9) (v := ?_) rfl (by kernel_rfl) (by kernel_rfl) (by kernel_rfl) (fun _ _ _ h => h) (Or.inl ⟨by rfl, ?_⟩) hS ?_
    rotate_left
    · (intro w hSw; (try dsimp only at hSw); go_simp; try (with_reducible rfl))
    try simp only [Act.put]
    refine wpAnyH_done (by kernel_rfl) ?_ _
    have HRel : Hid (∀ T : Array Value, ({ tmps := T, defers := [] } : Act) = lvT (T.getD 0 undef) (T.getD 1 undef) v6 (fun k => T.getD k undef) → (r - 520 ≥ 1 → T.getD 0 undef = Value.slice (some ⟨b, o + (i + 1) * 520, none⟩) (r - 520) (vc - 520)) → (∃ va', T.getD 0 undef = .slice va' (r - 520) (vc - 520)) → LvJ w b o c X { tmps := T, defers := [] } w6 ∧ lenV (T.getD 0 undef) < r) := fun T hT h1 ⟨va', hva'⟩ => by
      rw [hT]
      generalize T.getD 0 undef = u0 at *
      generalize T.getD 1 undef = u1' at *
      generalize (fun k => T.getD k undef) = U' at *
      subst hva'
      have hno : ∀ q, pv.ownBlock = some q → w.heap.size ≤ q := fun q hq => (HLt.out q hq).1
      have hF6 : Below w.heap.size wr.drew w6 := HF6.out.below HBr.out.size (fun q hq => hno q (by simpa using hq))
      refine ⟨⟨i + 1, r - 520, va', vc - 520, v6, Y ++ [(kn, .slice (some ⟨b, o + i * 520 + 8, none⟩) 512 (vc - 8), pb)], u1', U', rfl, by omega, fun h2 => by have := h1 h2; simp at this; exact this, by omega, ⟨?_, ?_⟩, ?_, ?_, HBr.out.trans ((Below.refl _ _).drew.trans hF6)⟩, by show r - 520 < r; omega⟩
      · rw [List.length_append, show lfE (Y ++ [(kn, .slice (some ⟨b, o + i * 520 + 8, none⟩) 512 (vc - 8), pb)]) = lfE Y ++ [(kn, .slice (some ⟨b, o + i * 520 + 8, none⟩) 512 (vc - 8))] by simp [lfE], lfC_push]
        exact HO6.out
      · intro x hx
        rcases List.mem_append.1 hx with hx | hx
        · refine ⟨(HY.out.2 x hx).1, HF6.out.sees (HY.out.2 x hx).2.1.drew (fun y m c' hy hm => ?_), (HY.out.2 x hx).2.2⟩
          obtain ⟨q, c', e'⟩ := HYb.out x hx
          rw [e'] at hy
          simp at hy hm
          obtain ⟨rfl, _⟩ := hy
          have := hno _ hm
          simp at this
          omega
        · simp at hx
          subst hx
          refine ⟨HPl.out, HF6.out.sees HSp.out.drew (fun y m c' hy hm => ?_), _, _, rfl⟩
          simp at hy hm
          obtain ⟨rfl, _⟩ := hy
          have := hno _ hm
          simp at this
          omega
      · rw [List.map_append, HYe.out, HT.out, HXi.out]
        rfl
      · intro y hy
        rcases List.mem_append.1 hy with hy | hy
        · exact HYb.out y hy
        · simp at hy
          subst hy
          exact ⟨_, _, rfl⟩
    by_cases hv5 : vc = 520
    · subst hv5
      obtain rfl : r = 520 := by omega
      go_wp2
      go_step3
      exact ⟨rfl, HRel.out _ rfl (fun h => by omega) ⟨_, rfl⟩⟩
    · go_wp2
      go_step3
      exact ⟨rfl, HRel.out _ rfl (fun h => by rw [show o + (i + 1) * 520 = o + i * 520 + 520 by omega]; rfl) ⟨_, rfl⟩⟩
end Go.Proofs.YtjimhikfmccicaaGreat
namespace Go.Proofs.YtjimhikfmccicaaGreat
open Go.RowKit Go.Maps

/-- A disk at block D: its files A, s strokes done, its power, its blocks F. -/
def Dg (f : Int → Int) (w : World) (D : Nat) (A : List AF) (s : Nat) (off : Bool) (F : List Nat) : Prop :=
  ∃ mb dv L, Dk w D mb dv L f (s : Int) off ∧ M.rise (names L) ∧ L.map fabs = A ∧ foot D mb dv L = F
def Kin (f : Int → Int) : Prop := ∀ j, f j = 0 ∨ f j = 1 ∨ f j = 2 ∨ f j = 3
theorem Dg.lt {f : Int → Int} {w : World} {D : Nat} {A : List AF} {s : Nat} {off : Bool} {F : List Nat} (h : Dg f w D A s off F) : ∀ k ∈ F, k < w.heap.size := by
  obtain ⟨mb, dv, L, hD, _, _, rfl⟩ := h
  exact hD.lt
theorem Dg.fr {f : Int → Int} {w w' : World} {D : Nat} {A : List AF} {s : Nat} {off : Bool} {F : List Nat} (h : Dg f w D A s off F) {fs : List Nat} (hF : Fr fs w w') (hn : ∀ k ∈ F, k ∉ fs) : Dg f w' D A s off F := by
  obtain ⟨mb, dv, L, hD, hr, hA, rfl⟩ := h
  exact ⟨mb, dv, L, hF.dk hD hn, hr, hA, rfl⟩
theorem Dg.rise {f : Int → Int} {w : World} {D : Nat} {A : List AF} {s : Nat} {off : Bool} {F : List Nat} (h : Dg f w D A s off F) : M.rise (nmA A) := by
  obtain ⟨mb, dv, L, _, hr, rfl, _⟩ := h
  rw [nmA_fabs]
  exact hr
theorem Dg.len {f : Int → Int} {w : World} {D : Nat} {A : List AF} {s : Nat} {off : Bool} {F : List Nat} (h : Dg f w D A s off F) (t : ByteArray) : (seenA A t).length ≤ 4194304 := by
  obtain ⟨mb, dv, L, hD, hr, rfl, rfl⟩ := h
  unfold seenA
  rw [nmA_fabs]
  split
  · rename_i hh
    have hi := (has_pos hr hh).1
    rw [names_length] at hi
    rw [fabs_getD]
    exact (hD.2.2.1 _ (getD_mem L hi)).2.2
  · simp
def DgM (f : Int → Int) (w w' : World) (D : Nat) (A : List AF) (s : Nat) (off : Bool) (F : List Nat) : Prop := ∃ F', Dg f w' D A s off F' ∧ Fr F w w' ∧ ∀ k ∈ F', k ∈ F ∨ w.heap.size ≤ k
theorem dg_op {f : Int → Int} {w w' : World} {D : Nat} {mb : Nat} {dv : Value} {L : List FR} {s : Nat} {off : Bool} {q : S3} {e : Ending} (hr : M.rise (names L)) (hq : M.rise (nmA q.2.1) ∧ M.rise (nmA q.2.2)) (h : OpP w D mb dv L f (s : Int) off q e w') :
    e = .returned (.int .i64 (mSt (L.map fabs) off (f ((s : Int) + 1)) q).1) ∧ DgM f w w' D (mSt (L.map fabs) off (f ((s : Int) + 1)) q).2.1 (s + 1) (mSt (L.map fabs) off (f ((s : Int) + 1)) q).2.2 (foot D mb dv L) := by
  obtain ⟨he, v', L', hM, hL⟩ := h
  refine ⟨he, foot D mb v' L', ⟨mb, v', L', ?_, ?_, hL, rfl⟩, hM.2.1, hM.2.2⟩
  · rw [show ((s + 1 : Nat) : Int) = (s : Int) + 1 by omega]
    exact hM.1
  · rw [← nmA_fabs, hL]
    rw [← nmA_fabs] at hr
    unfold mSt
    split
    · exact hr
    · split
      · exact hr
      · split
        · exact hr
        · split
          · exact hq.2
          · exact hq.1

/-- The store as plain data: the disk's files, its strokes, its power; what it was refused with. -/
structure Sd where
  A : List AF
  s : Nat
  off : Bool
  er : Int
def Sd.kp (x : Sd) (e : Int) : Sd := if x.er = 0 then ⟨x.A, x.s, x.off, e⟩ else x
/-- Behind a look at the disk. -/
def Sd.dk (x : Sd) : Sd := if x.off = true then x.kp 9 else x
/-- Behind a stroke. -/
def Sd.st (f : Int → Int) (x : Sd) (q : S3) : Sd := (⟨(mSt x.A x.off (f ((x.s : Int) + 1)) q).2.1, x.s + 1, (mSt x.A x.off (f ((x.s : Int) + 1)) q).2.2, x.er⟩ : Sd).kp (mSt x.A x.off (f ((x.s : Int) + 1)) q).1
def Sd.sz (x : Sd) (t : ByteArray) : Nat := if x.off = true then 0 else (seenA x.A t).length
def Sd.has (x : Sd) (t : ByteArray) : Bool := if x.off = true then false else if x.er = 0 then M.has (nmA x.A) t else false
def Sd.wr (f : Int → Int) (x : Sd) (t : ByteArray) (p : Nat) (b : List Nat) : Sd := if x.er = 0 then x.st f (mWrite x.A t p b) else x
def Sd.ct (f : Int → Int) (x : Sd) (t : ByteArray) (n : Nat) : Sd := if n < x.sz t ∧ x.er = 0 then x.st f (mTrunc x.A t n) else x.dk
def Sd.sy (f : Int → Int) (x : Sd) (t : ByteArray) : Sd := if x.has t = true then x.st f (mSync x.A t) else x.dk
def Sd.rm (f : Int → Int) (x : Sd) (t : ByteArray) : Sd := if x.er = 0 then x.st f (mDel x.A t) else x

/-- The pager's block: its store, and what else it holds. -/
def Pr (w : World) (P D : Nat) (er : Int) (R : List Value) : Prop := w.heap[P]? = some (.cells (Value.pointer (some ⟨D, 0, none⟩) :: Value.int .i64 er :: R).toArray 97 (0, 0))
theorem Pr.lt {w : World} {P D : Nat} {er : Int} {R : List Value} (h : Pr w P D er R) : P < w.heap.size := (Array.getElem?_eq_some_iff.1 h).1
theorem Pr.fr {w w' : World} {P D : Nat} {er : Int} {R : List Value} (h : Pr w P D er R) {fs : List Nat} (hF : Fr fs w w') (hn : P ∉ fs) : Pr w' P D er R := (hF.2.2 P h.lt hn).trans h
theorem Pr.cells {w : World} {P D : Nat} {er : Int} {R : List Value} (h : Pr w P D er R) : w.cell? ⟨P, 0, none⟩ = some (.pointer (some ⟨D, 0, none⟩)) ∧ w.cell? ⟨P, 1, none⟩ = some (.int .i64 er) ∧ w.frozen? ⟨P, 1, none⟩ = false := by
  have h1 : w.heap[P]? = some _ := h
  exact ⟨(cell_of_row w P 0 _ _ (0, 0) h1).trans rfl, (cell_of_row w P 1 _ _ (0, 0) h1).trans rfl, by simp [World.frozen?, h1]⟩
theorem Pr.set {w : World} {P D : Nat} {er : Int} {R : List Value} (h : Pr w P D er R) (e : Int) : Pr (w.setCell ⟨P, 1, none⟩ (.int .i64 e)) P D e R := by
  have h1 : w.heap[P]? = some _ := h
  unfold Pr
  rw [heap_setCell_same w P 1 _ _ _ h1]
  simp
def Sg (f : Int → Int) (w : World) (P D : Nat) (R : List Value) (x : Sd) (F : List Nat) : Prop := Pr w P D x.er R ∧ Dg f w D x.A x.s x.off F ∧ P ∉ F
theorem Sg.fr {f : Int → Int} {w w' : World} {P D : Nat} {R : List Value} {x : Sd} {F : List Nat} (h : Sg f w P D R x F) {fs : List Nat} (hF : Fr fs w w') (hP : P ∉ fs) (hn : ∀ k ∈ F, k ∉ fs) : Sg f w' P D R x F := ⟨h.1.fr hF hP, h.2.1.fr hF hn, h.2.2⟩
theorem Sg.on {f : Int → Int} {w w' : World} {P D : Nat} {R : List Value} {x : Sd} {F : List Nat} (h : Sg f w P D R x F) (hb : Below w.heap.size w w') : Sg f w' P D R x F := h.fr (Fr.of_below (fs := []) hb) (by simp) (fun _ _ hk => by cases hk)
def SgM (f : Int → Int) (w w' : World) (P D : Nat) (R : List Value) (x : Sd) (F : List Nat) : Prop := ∃ F', Sg f w' P D R x F' ∧ Fr (P :: F) w w' ∧ ∀ k ∈ F', k ∈ F ∨ w.heap.size ≤ k
theorem SgM.same {f : Int → Int} {w w' : World} {P D : Nat} {R : List Value} {x : Sd} {F : List Nat} (h : Sg f w P D R x F) (hb : Below w.heap.size w w') : SgM f w w' P D R x F := ⟨F, h.on hb, Fr.of_below hb, fun _ hk => .inl hk⟩
theorem SgM.since {f : Int → Int} {w w1 w2 : World} {P D : Nat} {R : List Value} {x : Sd} {F : List Nat} (h : SgM f w1 w2 P D R x F) (hb : Below w.heap.size w w1) : SgM f w w2 P D R x F := by
  obtain ⟨F', h1, h2, h3⟩ := h
  exact ⟨F', h1, (Fr.of_below hb).trans h2 (fun k hk => .inl hk), fun k hk => (h3 k hk).imp id (fun h => Nat.le_trans hb.size h)⟩
theorem sg_step {f : Int → Int} {w w1 w2 : World} {P D : Nat} {R : List Value} {y : Sd} {F F1 : List Nat} (hF : Fr (P :: F) w w1) (hn : ∀ k ∈ F1, k ∈ F ∨ w.heap.size ≤ k) (h2 : SgM f w1 w2 P D R y F1) : SgM f w w2 P D R y F := by
  obtain ⟨F2, hs2, hF2, hn2⟩ := h2
  refine ⟨F2, hs2, hF.trans hF2 (fun k hk => ?_), fun k hk => ?_⟩
  · rcases List.mem_cons.1 hk with rfl | hk
    · exact .inl (List.mem_cons_self ..)
    · exact (hn k hk).imp (fun h => List.mem_cons_of_mem _ h) id
  · rcases hn2 k hk with h | h
    · exact hn k h
    · exact .inr (Nat.le_trans hF.2.1 h)
/-- A call behind others. -/
theorem SgM.call {f : Int → Int} {w w1 : World} {P D : Nat} {R R' : List Value} {x y : Sd} {F : List Nat} (h : SgM f w w1 P D R x F) {fn : Nat} {args : Array Value} {r : Ending} (hc : ∀ F1, Sg f w1 P D R x F1 → (∀ k ∈ F1, k ∈ F ∨ w.heap.size ≤ k) → Fr (P :: F) w w1 → Calls Tryz.prog fn args w1 (fun e w' => e = r ∧ SgM f w1 w' P D R' y F1)) : Calls Tryz.prog fn args w1 (fun e w' => e = r ∧ SgM f w w' P D R' y F) := by
  obtain ⟨F1, hs, hF, hn⟩ := h
  exact (hc F1 hs hn hF).mono (fun e w' q => ⟨q.1, sg_step hF hn q.2⟩)

set_option maxRecDepth 100000 in
set_option maxHeartbeats 400000 in
theorem keep_g {f : Int → Int} {w : World} {P D : Nat} {R : List Value} {x : Sd} {F : List Nat} (h : Sg f w P D R x F) (e : Int) : Calls Tryz.prog 99 #[.pointer (some ⟨P, 0, none⟩), .int .i64 e] w fun e' w' => e' = .returned (.tuple #[]) ∧ SgM f w w' P D R (x.kp e) F := by
  obtain ⟨_, c1, f1⟩ := h.1.cells
  by_cases h0 : x.er = 0
  · have HX : Hid (SgM f w (w.setCell ⟨P, 1, none⟩ (.int .i64 e)) P D R (x.kp e) F) := by
      have hF : Fr [P] w (w.setCell ⟨P, 1, none⟩ (.int .i64 e)) := Fr.of_set w ⟨P, 1, none⟩ _
      refine ⟨F, ⟨?_, ?_, h.2.2⟩, hF.mono (fun k hk => .inl (by simp at hk; simp [hk])), fun k hk => .inl hk⟩
      · unfold Sd.kp
        rw [if_pos h0]
        exact h.1.set e
      · unfold Sd.kp
        rw [if_pos h0]
        exact h.2.1.fr hF (fun k hk hm => by simp at hm; subst hm; exact h.2.2 hk)
    rw [h0] at c1
    clear h h0
    go_enter Tryz.func99, Tryz.ntmps99
    go_wp2
    go_end0
    exact ⟨rfl, HX.out⟩
  · have HX : Hid (SgM f w w P D R (x.kp e) F) := by
      show SgM _ _ _ _ _ _ _ _
      unfold Sd.kp
      rw [if_neg h0]
      exact SgM.same h (Below.refl _ _)
    have hb : (x.er == 0) = false := by rw [beq_eq_false_iff_ne]; exact h0
    generalize x.er = er at c1 hb
    clear h h0
    go_enter Tryz.func99, Tryz.ntmps99
    go_wp2
    go_end0
    exact ⟨rfl, HX.out⟩

/-- Behind what a look told. -/
def Sd.fo (x : Sd) (e : Int) : Sd := if e = 0 ∨ e = 2 then x else x.kp e
set_option maxRecDepth 100000 in
set_option maxHeartbeats 400000 in
theorem found_g {f : Int → Int} {w : World} {P D : Nat} {R : List Value} {x : Sd} {F : List Nat} (h : Sg f w P D R x F) (e : Int) (he : e = 0 ∨ e = 2 ∨ e = 9) : Calls Tryz.prog 92 #[.pointer (some ⟨P, 0, none⟩), .int .i64 e] w fun e' w' => e' = .returned (.bool (decide (e = 0) && decide (x.er = 0))) ∧ SgM f w w' P D R (x.fo e) F := by
  obtain ⟨_, c1, _⟩ := h.1.cells
  rcases he with rfl | rfl | rfl
  · have HX : Hid (SgM f w w P D R (x.fo 0) F) := SgM.same h (Below.refl _ _)
    by_cases h0 : x.er = 0
    · have HR : Hid ((decide ((0 : Int) = 0) && decide (x.er = 0)) = true) := by show _ = _; simp [h0]
      rw [h0] at c1
      clear h h0
      go_enter Tryz.func92, Tryz.ntmps92
      go_wp2
      go_ret
      exact ⟨ret_bool HR.out.symm, HX.out⟩
    · have HR : Hid ((decide ((0 : Int) = 0) && decide (x.er = 0)) = false) := by show _ = _; simp [h0]
      have hb : (x.er == 0) = false := by rw [beq_eq_false_iff_ne]; exact h0
      obtain ⟨er, hx⟩ : ∃ er, x.er = er := ⟨_, rfl⟩
      rw [hx] at c1 hb
      clear h h0 hx
      go_enter Tryz.func92, Tryz.ntmps92
      go_wp2
      go_ret
      exact ⟨ret_bool HR.out.symm, HX.out⟩
  · have HX : Hid (SgM f w w P D R (x.fo 2) F) := SgM.same h (Below.refl _ _)
    have HR : Hid ((decide ((2 : Int) = 0) && decide (x.er = 0)) = false) := by show _ = _; simp
    clear h c1
    go_enter Tryz.func92, Tryz.ntmps92
    go_wp2
    go_ret
    exact ⟨ret_bool HR.out.symm, HX.out⟩
  · have HK : Hid (Calls Tryz.prog 99 #[.pointer (some ⟨P, 0, none⟩), .int .i64 9] w fun e' w' => e' = .returned (.tuple #[]) ∧ SgM f w w' P D R (x.fo 9) F) := keep_g h 9
    have HR : Hid ((decide ((9 : Int) = 0) && decide (x.er = 0)) = false) := by show _ = _; simp
    clear h c1
    go_enter Tryz.func92, Tryz.ntmps92
    go_wp2_with fail
    refine HK.out.mono ?_
    rintro e w1 ⟨rfl, hM⟩
    have HM := Hid.mk' hM
    clear hM HK
    go_wp2
    go_ret
    exact ⟨ret_bool HR.out.symm, HM.out⟩

/-- The error of a look. -/
def Sd.le (x : Sd) (t : ByteArray) : Int := if x.off = true then 9 else errA x.A t
theorem Sd.le_any (x : Sd) (t : ByteArray) : x.le t = 0 ∨ x.le t = 2 ∨ x.le t = 9 := by
  unfold Sd.le errA
  split
  · simp
  · split <;> simp
theorem Sd.fo_le (x : Sd) (t : ByteArray) : x.fo (x.le t) = x.dk := by
  unfold Sd.fo Sd.le Sd.dk errA
  split
  · simp
  · split <;> simp
theorem Sd.has_le (x : Sd) (t : ByteArray) : (decide (x.le t = 0) && decide (x.er = 0)) = x.has t := by
  unfold Sd.le Sd.has errA
  by_cases h1 : x.off = true
  · simp [h1]
  · rw [if_neg h1, if_neg h1]
    by_cases h2 : x.er = 0
    · rw [if_pos h2]
      by_cases h3 : M.has (nmA x.A) t = true
      · rw [if_pos h3, h3]; simp [h2]
      · rw [if_neg h3]; simp [h2]; simpa using h3
    · rw [if_neg h2]; simp [h2]
theorem dsize_g {f : Int → Int} {w : World} {P D : Nat} {R : List Value} {x : Sd} {F : List Nat} (h : Sg f w P D R x F) (t : ByteArray) (ht : M.nam t = true) : Calls Tryz.prog 91 #[.pointer (some ⟨D, 0, none⟩), .string t] w fun e w' => e = .returned (.tuple #[.int .i64 (x.sz t : Nat), .int .i64 (x.le t)]) ∧ Below w.heap.size w w' := by
  obtain ⟨_, ⟨mb, dv, L, hD, hr, hA, _⟩, _⟩ := h
  unfold Sd.sz Sd.le
  by_cases ho : x.off = true
  · rw [if_pos ho, if_pos ho]
    rw [ho] at hD
    exact size_dark hD t ht
  · rw [if_neg ho, if_neg ho, ← hA]
    rw [show x.off = false by simpa using ho] at hD
    unfold seenA errA
    rw [nmA_fabs]
    by_cases hh : M.has (names L) t = true
    · rw [if_pos hh, if_pos hh, fabs_getD]
      exact size_there hD hr t ht hh
    · rw [if_neg hh, if_neg hh]
      exact size_none hD hr t ht (by simpa using hh)
set_option maxRecDepth 100000 in
set_option maxHeartbeats 400000 in
theorem there_g {f : Int → Int} {w : World} {P D : Nat} {R : List Value} {x : Sd} {F : List Nat} (h : Sg f w P D R x F) (t : ByteArray) (ht : M.nam t = true) : Calls Tryz.prog 58 #[.pointer (some ⟨P, 0, none⟩), .string t] w fun e w' => e = .returned (.bool (x.has t)) ∧ SgM f w w' P D R x.dk F := by
  obtain ⟨c0, _, _⟩ := h.1.cells
  have HD := Hid.mk' (dsize_g h t ht)
  have HS := Hid.mk' h
  clear h
  go_enter Tryz.func58, Tryz.ntmps58
  go_wp2_with fail
  refine HD.out.mono ?_
  rintro e w1 ⟨rfl, hb1⟩
  have HB := Hid.mk' hb1
  have HF := Hid.mk' (found_g (HS.out.on hb1) (x.le t) (x.le_any t))
  rw [Sd.fo_le, Sd.has_le] at HF
  clear hb1
  go_wp2_with fail
  refine HF.out.mono ?_
  rintro e w2 ⟨rfl, hM⟩
  have HM := Hid.mk' (hM.since HB.out)
  clear hM
  go_wp2
  go_ret
  exact ⟨rfl, HM.out⟩

set_option maxRecDepth 100000 in
set_option maxHeartbeats 400000 in
theorem ssize_g {f : Int → Int} {w : World} {P D : Nat} {R : List Value} {x : Sd} {F : List Nat} (h : Sg f w P D R x F) (t : ByteArray) (ht : M.nam t = true) : Calls Tryz.prog 69 #[.pointer (some ⟨P, 0, none⟩), .string t] w fun e w' => e = .returned (.int .i64 (x.sz t : Nat)) ∧ SgM f w w' P D R x.dk F := by
  obtain ⟨c0, _, _⟩ := h.1.cells
  have HD := Hid.mk' (dsize_g h t ht)
  have HS := Hid.mk' h
  clear h
  go_enter Tryz.func69, Tryz.ntmps69
  go_wp2_with fail
  refine HD.out.mono ?_
  rintro e w1 ⟨rfl, hb1⟩
  have HB := Hid.mk' hb1
  have HF := Hid.mk' (found_g (HS.out.on hb1) (x.le t) (x.le_any t))
  rw [Sd.fo_le, Sd.has_le] at HF
  clear hb1
  go_wp2_with fail
  refine HF.out.mono ?_
  rintro e w2 ⟨rfl, hM⟩
  have HM := Hid.mk' (hM.since HB.out)
  clear hM
  go_wp2
  go_ret
  exact ⟨rfl, HM.out⟩

end Go.Proofs.YtjimhikfmccicaaGreat
