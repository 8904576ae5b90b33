/-
  The contract of number: the number whose bytes are given, the highest first.
  Numbers read back; the contract of leaves: the pages of a batch's bytes.
-/
import Derived.Test.YtjimhikfmccicaaGreatMg18
import Derived.Test.YtjimhikfmccicaaGreatXf
namespace Go.Proofs.YtjimhikfmccicaaGreat
open Go.RowKit Go.Maps Go.Sort Go.Shelf

def numL (l : List Nat) : Nat := l.foldl (fun n x => n * 256 + x) 0
theorem numL_push (l : List Nat) (x : Nat) : numL (l ++ [x]) = numL l * 256 + x := by
  unfold numL
  rw [List.foldl_append]
  rfl
set_option maxRecDepth 100000 in
theorem or_i64 (n x : Nat) (hn : n * 256 + x < 9223372036854775808) (hx : x < 256) : bits .or .i64 ((n : Int) * 256) (x : Int) = ((n * 256 + x : Nat) : Int) := by
  have e : (n : Int) * 256 = ((n * 256 : Nat) : Int) := by omega
  rw [e]
  have g1 : n * 256 < 18446744073709551616 := by omega
  have g2 : x < 18446744073709551616 := by omega
  have h1 : (BitVec.ofInt 64 ((n * 256 : Nat) : Int)).toNat = n * 256 := by
    rw [BitVec.ofInt_natCast, BitVec.toNat_ofNat]; exact Nat.mod_eq_of_lt g1
  have h2 : (BitVec.ofInt 64 (x : Int)).toNat = x := by
    rw [BitVec.ofInt_natCast, BitVec.toNat_ofNat]; exact Nat.mod_eq_of_lt g2
  have h3 : n * 256 ||| x = n * 256 + x := by
    have := Nat.two_pow_add_eq_or_of_lt (i := 8) (b := x) (by omega) n
    rw [Nat.mul_comm n 256]
    exact this.symm
  show IntKind.i64.wrap ((BitVec.ofInt 64 ((n * 256 : Nat) : Int) ||| BitVec.ofInt 64 (x : Int)).toNat : Int) = _
  rw [BitVec.toNat_or, h1, h2, h3]
  simp only [IntKind.wrap, IntKind.bits, IntKind.signed]
  simp
  omega

set_option maxRecDepth 100000 in
set_option maxHeartbeats 1000000 in
theorem number_any {w : World} (a : Option Addr) (c : Nat) (l : List Nat) (n : Nat) (hn : l.length = n) (hs : Sees w (.slice a n c) l) (hb : ∀ x ∈ l, x < 256) (h9 : n ≤ 1000) (hv : ∀ k, k ≤ n → numL (l.take k) < 9223372036854775808) :
    Calls Tryz.prog 93 #[.slice a n c] w fun e w' => e = .returned (.int .i64 (numL l : Nat)) ∧ w' = w := by
  obtain ⟨⟨a', c', e', hc⟩, hm⟩ := hs
  simp at e'
  obtain ⟨rfl, h0, rfl⟩ := e'
  have HC := Hid.mk' hc
  have HB := Hid.mk' hb
  have HN := Hid.mk' hn
  have HV := Hid.mk' hv
  clear hc hb h0 hn hm hv
  go_enter Tryz.func93, Tryz.ntmps93
  go_wp2
  go_loopw [3, 8] (fun u3 i wr => ∃ k m : Nat, k ≤ n ∧ numL (l.take k) = m ∧ u3 = .int .i64 (m : Int) ∧ i = .int .i64 k ∧ wr = w) (fun _ i _ => n - (intOf i).toNat)
  case atStart => exact ⟨0, 0, by omega, rfl, rfl, rfl, rfl⟩
  case round =>
    obtain ⟨k, m, hk, hm2, rfl, rfl, hw⟩ := hrel
    obtain rfl := hw.symm
    clear hw
    have HM := Hid.mk' hm2
    clear hm2
    by_cases hlt : k < n
    · obtain ⟨b, o, rfl, hj⟩ := HC.out (by have := HN.out; omega)
      have q0 := hj k (by have := HN.out; omega)
      have hkl : k < l.length := by have := HN.out; omega
      have HT : Hid (numL (l.take (k + 1)) = m * 256 + l.getD k 0) := by
        show _ = _
        rw [List.take_succ_eq_append_getElem hkl, numL_push, HM.out, List.getD_eq_getElem?_getD, List.getElem?_eq_getElem hkl]
        rfl
      have hx : l.getD k 0 < 256 := by
        rw [List.getD_eq_getElem?_getD, List.getElem?_eq_getElem hkl]
        exact HB.out _ (List.getElem_mem hkl)
      have hml := HV.out (k + 1) (by omega)
      rw [HT.out] at hml
      generalize l.getD k 0 = x at *
      have hor := or_i64 m x hml hx
      have hmN : m ≤ 36028797018963967 := by omega
      clear hj hml
      go_wp2
      exact ⟨⟨k + 1, m * 256 + x, by omega, HT.out, by go_num, by go_num, trivial⟩, by simp [intOf]; omega⟩
    · obtain rfl : k = n := by omega
      go_wp2
      go_ret
      refine ⟨?_, rfl⟩
      rw [← HM.out, List.take_of_length_le (by have := HN.out; omega)]
      rfl
end Go.Proofs.YtjimhikfmccicaaGreat
namespace Go.Proofs.YtjimhikfmccicaaGreat
open Go.RowKit Go.Maps Go.Sort Go.Shelf

theorem be_take (k N j : Nat) (hj : j < k) : (be k N).take (j + 1) = (be k N).take j ++ [N / 256 ^ (k - 1 - j) % 256] := by
  have hl : j < (be k N).length := by rw [be_length]; exact hj
  rw [List.take_succ_eq_append_getElem hl]
  congr 2
  simp [be]
theorem numL_be_take (k N j : Nat) (hN : N < 256 ^ k) (hj : j ≤ k) : numL ((be k N).take j) = N / 256 ^ (k - j) := by
  induction j with
  | zero => rw [List.take_zero, Nat.sub_zero, Nat.div_eq_of_lt hN]; rfl
  | succ j ih =>
    rw [be_take k N j (by omega), numL_push, ih (by omega)]
    have e : k - j = (k - 1 - j) + 1 := by omega
    rw [e, Nat.pow_succ, ← Nat.div_div_eq_div_mul, show k - (j + 1) = k - 1 - j by omega]
    omega
theorem numL_be (k N : Nat) (hN : N < 256 ^ k) : numL (be k N) = N := by
  have h := numL_be_take k N k hN (Nat.le_refl _)
  rw [List.take_of_length_le (by rw [be_length]; exact Nat.le_refl _), Nat.sub_self, Nat.pow_zero, Nat.div_one] at h
  exact h
theorem number_be {w : World} (a : Option Addr) (c k N : Nat) (hN : N < 256 ^ k) (hs : Sees w (.slice a k c) (be k N)) (hk : k ≤ 8) (hN9 : N ≤ 1000000000) :
    Calls Tryz.prog 93 #[.slice a k c] w fun e w' => e = .returned (.int .i64 (N : Int)) ∧ w' = w := by
  have h := number_any a c (be k N) k (be_length k N) hs (be_lt k N) (by omega) (fun j hj => by
    rw [numL_be_take k N j hN hj]
    have := Nat.div_le_self N (256 ^ (k - j))
    omega)
  rw [numL_be k N hN] at h
  exact h

/-- A scope whose label stands behind its first piece. -/
theorem wp_scope_mid {P : Program} {a : Act} {w : World} {Q : Exit → Act → World → Prop} {A body : Code} (l : Nat) (J : Act → World → Prop) (μ : Act → World → Nat) (hA : findLabel A l = none) (first : A.wp P (Exit.then J (fun _ _ _ => False)) a w)
    (pass : ∀ a w, J a w → body.wp P (Exit.jump l (fun a' w' => J a' w' ∧ μ a' w' < μ a w) Q) a w) : (Code.scope (.seq A (.seq (.label l) body))).wp P Q a w := by
  refine wp_scope_jumps (rest := .seq .skip body) l J μ (by simp [findLabel, hA]) (wp_seq (wp_mono first ?_)) (fun a w h => wp_seq (wp_skip (pass a w h)))
  intro e a' w' h
  cases e <;> first | exact h.elim | skip
  refine wp_seq (wp_label (wp_mono (pass a' w' h) ?_))
  intro e a' w' h
  cases e <;> first | exact h | exact ⟨h.1, h.2.1⟩
/-- A frame of leaves. -/
def lvT (u0 u1 u3 : Value) (U : Nat → Value) : Act := { tmps := #[u0, u1, .slice none 0 0, u3, U 4, U 5, U 6, U 7, U 8, U 9, U 10, U 11, U 12, U 13, U 14, U 15, U 16, U 17, U 18], defers := [] }
def LvJ (w : World) (b o c : Nat) (X : List (Nat × List Nat)) (a' : Act) (wr : World) : Prop :=
  ∃ (i r : Nat) (va : Option Addr) (vc : Nat) (pv : Value) (Y : List LF) (u1 : Value) (U : Nat → Value), a' = lvT (.slice va r vc) u1 pv U ∧ r + i * 520 = X.length * 520 ∧ (1 ≤ r → va = some ⟨b, o + i * 520, none⟩) ∧ vc + i * 520 = c ∧ Lfs wr w.heap.size pv Y ∧ Y.map pr = X.take i ∧ (∀ y ∈ Y, ∃ q c', y.2.1 = .slice (some ⟨b, q, none⟩) 512 c') ∧ Below w.heap.size w wr

set_option maxRecDepth 100000 in
set_option maxHeartbeats 2000000 in
theorem leaves_any {w : World} (b o c : Nat) (X : List (Nat × List Nat)) (hX : wholeB X) (hXn : ∀ x ∈ X, x.1 ≤ 1000000000) (n : Nat) (hn : X.length * 520 = n) (hc : n ≤ c) (hcm : c ≤ 9223372036854775807) (va0 : Option Addr) (hva0 : 1 ≤ n → va0 = some ⟨b, o, none⟩ ∧ b < w.heap.size) (hs : Sees w (.slice va0 n c) (lvB X)) (hXl : X.length ≤ 5000) :
    Calls Tryz.prog 94 #[.slice va0 n c] w fun e w' => ∃ v Y, e = .returned v ∧ Lfs w' w.heap.size v Y ∧ Y.map pr = X ∧ (∀ y ∈ Y, ∃ q c', y.2.1 = .slice (some ⟨b, q, none⟩) 512 c') ∧ Below w.heap.size w w' := by
  have HX := Hid.mk' hX
  have HXn := Hid.mk' hXn
  have HS := Hid.mk' hs
  have HV := Hid.mk' hva0
  have HN := Hid.mk' hn
  have HL := Hid.mk' (lvB_length hX)
  clear hX hXn hs hva0
  go_enter Tryz.func94, Tryz.ntmps94
  go_wp2
  refine wp_scope_mid 0 (LvJ w b o c X) (fun a' _ => lenV (a'.tmps.getD 0 undef)) rfl ?_ ?_
  · go_wp2
    exact ⟨0, n, va0, c, .slice none 0 0, [], _, fun _ => undef, rfl, by omega, fun h1 => by rw [Nat.zero_mul, Nat.add_zero]; exact (HV.out h1).1, by omega, ⟨World.ownsRow_nil _ _ _ _, fun x hx => by cases hx⟩, rfl, (fun y hy => by cases hy), Below.refl _ _⟩
  rintro act wr ⟨i, r, va, vc, pv, Y, u1, U, rfl, hri, hva, hvc, hY, hYe, hYb, hbr⟩
  unfold lvT
  have HY := Hid.mk' hY
  have HYe := Hid.mk' hYe
  have HYb := Hid.mk' hYb
  have HBr := Hid.mk' hbr
  clear hY hYe hYb hbr
  by_cases hr0 : r = 0
  · subst hr0
    have hiX : X.take i = X := List.take_of_length_le (by omega)
    have HE : Hid (Y.map pr = X) := by show _ = _; rw [HYe.out, hiX]
    clear hiX HYe
    go_wp2
    simp only [Exit.jump]
    go_ret
    exact ⟨_, Y, rfl, HY.out, HE.out, HYb.out, HBr.out⟩
  · have hi : i < X.length := by omega
    obtain rfl := hva (by omega)
    obtain ⟨hva1, hbw⟩ := HV.out (by omega)
    have hYl : Y.length = i := by
      have := congrArg List.length HYe.out
      simp at this
      omega
    have hkn := HXn.out _ (List.getElem_mem hi)
    have hpl := HX.out _ (List.getElem_mem hi)
    have HT : Hid (X.take (i + 1) = X.take i ++ [X[i]]) := List.take_succ_eq_append_getElem hi
    have hcut : (lvB X).drop (i * 520) = be 8 (X[i]).1 ++ ((X[i]).2 ++ lvB (X.drop (i + 1))) := by
      have e : X = X.take i ++ (X[i] :: X.drop (i + 1)) := by rw [← List.drop_eq_getElem_cons hi, List.take_append_drop]
      have e1 : lvB X = lvB (X.take i) ++ (be 8 (X[i]).1 ++ ((X[i]).2 ++ lvB (X.drop (i + 1)))) := by
        conv => lhs; rw [e]
        unfold lvB
        rw [List.flatMap_append, List.flatMap_cons, List.append_assoc]
      have e2 : (lvB (X.take i)).length = i * 520 := by
        rw [lvB_length (fun x hx => HX.out x (List.mem_of_mem_take hx)), List.length_take, Nat.min_eq_left (by omega)]
      rw [e1, List.drop_append_of_le_length (by omega), List.drop_of_length_le (by omega), List.nil_append]
    have hsr : Sees wr (.slice (some ⟨b, o + i * 520, none⟩) 8 vc) (be 8 (X[i]).1) := by
      have h9 := (HS.out.below HBr.out).part (i * 520) 8 vc (by rw [HL.out]; omega)
      rw [hva1, Option.map_some, Addr.add_lit, hcut, List.take_append_of_le_length (by rw [be_length]; omega), List.take_of_length_le (by rw [be_length]; omega)] at h9
      exact h9
    have HSp : Hid (Sees wr (.slice (some ⟨b, o + i * 520 + 8, none⟩) 512 (vc - 8)) (X[i]).2) := by
      have h9 := (HS.out.below HBr.out).part (i * 520 + 8) 512 (vc - 8) (by rw [HL.out]; omega)
      rw [hva1, Option.map_some, Addr.add_lit, ← List.drop_drop, hcut, List.drop_append_of_le_length (by rw [be_length]; omega), List.drop_of_length_le (by rw [be_length]; omega), List.nil_append, List.take_append_of_le_length (by rw [hpl.1]; omega), List.take_of_length_le (by rw [hpl.1]; omega), ← Nat.add_assoc] at h9
      exact h9
    have HXi : Hid (X[i] = ((X[i]).1, (X[i]).2)) := rfl
    have HPl := Hid.mk' hpl.1
    generalize hke : (X[i]).1 = kn at *
    generalize hpe : (X[i]).2 = pb at *
    have HXi : Hid (X[i] = (kn, pb)) := by show _ = _; rw [← hke, ← hpe]
    have HNu := Hid.mk' (number_be (some ⟨b, o + i * 520, none⟩) vc 8 kn (by omega) hsr.drew (by omega) hkn)
    have HO := Hid.mk' (append_leaf' wr.drew w.heap.size pv Y.length _ (kn : Int) (.slice (some ⟨b, o + i * 520 + 8, none⟩) 512 (vc - 8)) rfl (owns_keep HY.out.1 (Below.refl _ _).drew) (by omega) HBr.out.size)
    have HLt := Hid.mk' HY.out.1.lt
    have hrv : (r : Int) ≤ (vc : Int) := by omega
    have b8 : (8 : Int) ≤ (vc : Int) := by omega
    have b520 : (520 : Int) ≤ (vc : Int) := by omega
    have r520 : (520 : Int) ≤ (r : Int) := by omega
    have d8 : ¬ vc = 8 := by omega
    have hrb : ((r : Int) == 0) = false := by rw [beq_eq_false_iff_ne]; omega
    have hcmv : vc ≤ 9223372036854775807 := by omega
    clear hsr hpl hcut hva hke hpe hva1 hkn
    go_upto_region 4 with fail
    refine wp_region_held_drew (S := (fun _ : World => True)) (by kernel_rfl) (trivial) (fun hS => ?_)
    refine wpAnyH_take (i := 0) (v := ?_) rfl (by kernel_rfl) (by kernel_rfl) (by kernel_rfl) (fun _ _ _ h => h) (Or.inl ⟨by rfl, ?_⟩) hS ?_
    rotate_left
    · (intro w hSw; (try dsimp only at hSw); go_simp; try (with_reducible rfl))
    try simp only [Act.put, List.setIfInBounds_toArray]
    refine wpAnyH_take (i := 1) (v := ?_) rfl (by kernel_rfl) (by kernel_rfl) (by kernel_rfl) (fun _ _ _ h => h) (Or.inl ⟨by rfl, ?_⟩) hS ?_
    rotate_left
    · (intro w hSw; (try dsimp only at hSw); go_simp; try (with_reducible rfl))
    try simp only [Act.put]
    refine wpAnyH_take (i := 2) (v := ?_) rfl (by kernel_rfl) (by kernel_rfl) (by kernel_rfl) (fun _ _ _ h => h) (Or.inl ⟨by rfl, ?_⟩) hS ?_
    rotate_left
    · (intro w hSw; (try dsimp only at hSw); go_simp; try (with_reducible rfl))
    try simp only [Act.put]
    refine wpAnyH_take (i := 4) (v := ?_) rfl (by kernel_rfl) (by kernel_rfl) (by kernel_rfl) (fun _ _ _ h => h) (Or.inl ⟨by rfl, ?_⟩) hS ?_
    rotate_left
    · (intro w hSw; (try dsimp only at hSw); go_simp; try (with_reducible rfl))
    try simp only [Act.put]
    refine wpAnyH_take (i := 5) (v := ?_) rfl (by kernel_rfl) (by kernel_rfl) (by kernel_rfl) (fun _ _ _ h => h) (Or.inl ⟨by rfl, ?_⟩) hS ?_
    rotate_left
    · (intro w hSw; (try dsimp only at hSw); go_simp; try (with_reducible rfl))
    try simp only [Act.put]
    refine wpAnyH_ready (rs := [3]) (by kernel_rfl) (by simp) ?_
    refine (AllReadyH.cons rfl (fun K hK => ?_) AllReadyH.nil)
    go_simp
    go_wp2_with (go_at_call 93; refine HNu.out.mono ?_; rintro e w5 ⟨rfl, hw5⟩; obtain rfl := hw5.symm; clear hw5)
    refine hK.out _ _ trivial (fun hS => ?_)
    clear hK K
    try simp only [Act.put, List.setIfInBounds_toArray, List.set_cons_zero, List.set_cons_succ]
    refine wpAnyH_take (i := 6) (v := ?_) rfl (by kernel_rfl) (by kernel_rfl) (by kernel_rfl) (fun _ _ _ h => h) (Or.inl ⟨by rfl, ?_⟩) hS ?_
    rotate_left
    · (intro w hSw; (try dsimp only at hSw); go_simp; try (with_reducible rfl))
    try simp only [Act.put, List.setIfInBounds_toArray]
    refine wpAnyH_ready (rs := [7]) (by kernel_rfl) (by simp) ?_
    refine (AllReadyH.cons rfl (fun K hK => ?_) AllReadyH.nil)
    go_simp
    refine hK.out _ _ trivial (fun hS => ?_)
    clear hK K
    try simp only [Act.put, List.setIfInBounds_toArray, List.set_cons_zero, List.set_cons_succ]
    refine wpAnyH_ready (rs := [8]) (by kernel_rfl) (by simp) ?_
    refine (AllReadyH.cons rfl (fun K hK => ?_) AllReadyH.nil)
    refine step_append_ex (by rfl) _ _ 118 (by rfl) pv (.slice (some ⟨wr.heap.size, 0, none⟩) 1 1) (by rfl) (by rfl) HO.out ?_
    rintro v6 w6 ⟨ho6, hF6, hbk6⟩
    have HO6 := Hid.mk' ho6
    have HF6 := Hid.mk' hF6
    have HK6 := Hid.mk' hbk6
    clear ho6 hF6 hbk6
    refine hK.out _ _ trivial (fun hS => ?_)
    clear hK K
    try simp only [Act.put, List.setIfInBounds_toArray]
    refine wpAnyH_take (i := 9) (v := ?_) rfl (by kernel_rfl) (by kernel_rfl) (by kernel_rfl) (fun _ _ _ h => h) (Or.inl ⟨by rfl, ?_⟩) hS ?_
    rotate_left
    · (intro w hSw; (try dsimp only at hSw); go_simp; try (with_reducible rfl))
    try simp only [Act.put]
    refine wpAnyH_done (by kernel_rfl) ?_ _
    have HRel : Hid (∀ T : Array Value, ({ tmps := T, defers := [] } : Act) = lvT (T.getD 0 undef) (T.getD 1 undef) v6 (fun k => T.getD k undef) → (r - 520 ≥ 1 → T.getD 0 undef = Value.slice (some ⟨b, o + (i + 1) * 520, none⟩) (r - 520) (vc - 520)) → (∃ va', T.getD 0 undef = .slice va' (r - 520) (vc - 520)) → LvJ w b o c X { tmps := T, defers := [] } w6 ∧ lenV (T.getD 0 undef) < r) := fun T hT h1 ⟨va', hva'⟩ => by
      rw [hT]
      generalize T.getD 0 undef = u0 at *
      generalize T.getD 1 undef = u1' at *
      generalize (fun k => T.getD k undef) = U' at *
      subst hva'
      have hno : ∀ q, pv.ownBlock = some q → w.heap.size ≤ q := fun q hq => (HLt.out q hq).1
      have hF6 : Below w.heap.size wr.drew w6 := HF6.out.below HBr.out.size (fun q hq => hno q (by simpa using hq))
      refine ⟨⟨i + 1, r - 520, va', vc - 520, v6, Y ++ [(kn, .slice (some ⟨b, o + i * 520 + 8, none⟩) 512 (vc - 8), pb)], u1', U', rfl, by omega, fun h2 => by have := h1 h2; simp at this; exact this, by omega, ⟨?_, ?_⟩, ?_, ?_, HBr.out.trans ((Below.refl _ _).drew.trans hF6)⟩, by show r - 520 < r; omega⟩
      · rw [List.length_append, show lfE (Y ++ [(kn, .slice (some ⟨b, o + i * 520 + 8, none⟩) 512 (vc - 8), pb)]) = lfE Y ++ [(kn, .slice (some ⟨b, o + i * 520 + 8, none⟩) 512 (vc - 8))] by simp [lfE], lfC_push]
        exact HO6.out
      · intro x hx
        rcases List.mem_append.1 hx with hx | hx
        · refine ⟨(HY.out.2 x hx).1, HF6.out.sees (HY.out.2 x hx).2.1.drew (fun y m c' hy hm => ?_), (HY.out.2 x hx).2.2⟩
          obtain ⟨q, c', e'⟩ := HYb.out x hx
          rw [e'] at hy
          simp at hy hm
          obtain ⟨rfl, _⟩ := hy
          have := hno _ hm
          simp at this
          omega
        · simp at hx
          subst hx
          refine ⟨HPl.out, HF6.out.sees HSp.out.drew (fun y m c' hy hm => ?_), _, _, rfl⟩
          simp at hy hm
          obtain ⟨rfl, _⟩ := hy
          have := hno _ hm
          simp at this
          omega
      · rw [List.map_append, HYe.out, HT.out, HXi.out]
        rfl
      · intro y hy
        rcases List.mem_append.1 hy with hy | hy
        · exact HYb.out y hy
        · simp at hy
          subst hy
          exact ⟨_, _, rfl⟩
    by_cases hv5 : vc = 520
    · subst hv5
      obtain rfl : r = 520 := by omega
      go_wp2
      go_step3
      exact ⟨rfl, HRel.out _ rfl (fun h => by omega) ⟨_, rfl⟩⟩
    · go_wp2
      go_step3
      exact ⟨rfl, HRel.out _ rfl (fun h => by rw [show o + (i + 1) * 520 = o + i * 520 + 520 by omega]; rfl) ⟨_, rfl⟩⟩
end Go.Proofs.YtjimhikfmccicaaGreat
