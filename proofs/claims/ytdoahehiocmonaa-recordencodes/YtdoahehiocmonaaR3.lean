/-
  The contract of the reference's value.
-/
import Derived.Test.YtdoahehiocmonaaR2
namespace Go.Proofs.Ytdoahehiocmonaa
open Go.RowKit

theorem or_i64 (m : Int) (y : Nat) (hy : y < 256) (h0 : -36028797018963968 ≤ m) (h1 : m < 36028797018963968) : bits .or .i64 (m * 256) (y : Int) = m * 256 + y := by
  have e1 : (BitVec.ofInt 64 (m * 256)).toNat = (m % 72057594037927936).toNat * 256 := by
    rw [BitVec.toNat_ofInt]
    simp only [Nat.reducePow]
    omega
  have e2 : (BitVec.ofInt 64 (y : Int)).toNat = y := by
    rw [BitVec.toNat_ofInt]
    simp only [Nat.reducePow]
    omega
  show IntKind.i64.wrap ((BitVec.ofInt 64 (m * 256) ||| BitVec.ofInt 64 (y : Int)).toNat : Int) = _
  rw [BitVec.toNat_or, e1, e2, show (256 : Nat) = 2 ^ 8 from rfl, M.or_low _ y 8 (by omega)]
  simp only [IntKind.wrap, IntKind.bits, IntKind.signed]
  simp
  omega

theorem sgn_one (x : Nat) (h : x < 256) : wrap64 (IntKind.i8.wrap (x : Int)) = M.sgn [x] := by
  have e : IntKind.i8.wrap (x : Int) = ((x : Int) + 128) % 256 - 128 := by
    simp only [IntKind.wrap, IntKind.bits, IntKind.signed]
    simp
    omega
  rw [e, wrap64_is _ (by omega) (by omega)]
  show _ = if x < 128 then (x : Int) else (x : Int) - 256
  split <;> omega

theorem sgn_take_range (l : List Nat) (hl : ∀ x ∈ l, x < 256) (k : Nat) (hk : k ≤ 7) : -36028797018963968 ≤ M.sgn (l.take k) ∧ M.sgn (l.take k) < 36028797018963968 := by
  have hl' := fun x (hx : x ∈ l.take k) => hl x (List.mem_of_mem_take hx)
  have hlen : (l.take k).length ≤ 7 := by rw [List.length_take]; omega
  generalize l.take k = r at *
  cases r with
  | nil => exact ⟨by decide, by decide⟩
  | cons x r =>
    obtain ⟨a, b⟩ := M.sgn_range x r (hl' x (by simp)) (fun y hy => hl' y (by simp [hy]))
    have hp : (256 : Int) ^ r.length ≤ 281474976710656 := by
      have h6 : r.length ≤ 6 := by simpa using hlen
      have := Nat.pow_le_pow_right (n := 256) (by omega) h6
      have e : ((256 ^ r.length : Nat) : Int) = (256 : Int) ^ r.length := by simp
      rw [← e]
      omega
    generalize (256 : Int) ^ r.length = q at *
    exact ⟨by omega, by omega⟩

/-- What value tells. -/
def vres (t : Nat) (l : List Nat) : Option (M.V3 × Nat) := (M.tsz t).bind fun s => if s ≤ l.length then some (M.fromB t (l.take s), s) else none
def vtup (r : Option (M.V3 × Nat)) : Value := .tuple #[.agg (VC (r.getD (M.z0, 0)).1), .int .i64 ((r.getD (M.z0, 0)).2 : Nat), .bool r.isSome]

theorem vres_none {t : Nat} {l : List Nat} (h : M.tsz t = none) : vtup (vres t l) = .tuple #[.agg #[.int .i64 0, .int .i64 0, .string ⟨#[]⟩], .int .i64 0, .bool false] := by unfold vres; rw [h]; rfl
theorem vres_short {t s : Nat} {l : List Nat} (h : M.tsz t = some s) (hs : l.length < s) : vtup (vres t l) = .tuple #[.agg #[.int .i64 0, .int .i64 0, .string ⟨#[]⟩], .int .i64 0, .bool false] := by unfold vres; rw [h, Option.bind_some, if_neg (by omega)]; rfl
theorem vres_some {t s : Nat} {l : List Nat} (h : M.tsz t = some s) (hs : ¬ l.length < s) : vtup (vres t l) = .tuple #[.agg (VC (M.fromB t (l.take s))), .int .i64 (s : Nat), .bool true] := by unfold vres; rw [h, Option.bind_some, if_pos (by omega)]; rfl

set_option maxRecDepth 100000 in
set_option maxHeartbeats 1000000 in
theorem value_any (t : Nat) (ht : t < 18446744073709551616) (v : Value) (l : List Nat) (w : World) (hv : Sees w v l) (hl : ∀ x ∈ l, x < 256) (hr : Roomy v) :
    Calls Try.prog 29 #[.int .u64 t, v] w fun e w' => e = .returned (vtup (vres t l)) ∧ Below w.heap.size w w' := by
  have HV := Hid.mk' hv
  have HL := Hid.mk' hl
  obtain ⟨⟨a, ca, rfl, ha⟩, hma⟩ := hv
  obtain ⟨_, _, _, hr1, hr2⟩ := hr
  obtain ⟨rfl, rfl, rfl⟩ := by simpa using hr1
  clear hr1
  rcases tsz_ways t with ⟨h, e⟩ | ⟨h, e⟩ | ⟨h, e⟩ | ⟨h, e⟩ | ⟨h, e⟩ | ⟨h, e⟩ | ⟨h, e⟩ | ⟨h, e⟩
  · rcases h with rfl | rfl | rfl
    · rw [vres_some e (by omega), show M.fromB 0 (l.take 0) = (0, 0, ⟨#[]⟩) from rfl]
      clear e ha
      go_enter Try.func29, Try.ntmps29
      go_wp2
      refine bodyPost_ret ?_ rfl ⟨rfl, (Below.refl _ _).alloc (by exact Nat.le_refl _) _⟩
      simp [results, Try.results29, go_sem]
    · rw [vres_some e (by omega), show M.fromB 5 (l.take 0) = (1, 0, ⟨#[]⟩) from rfl]
      clear e ha
      go_enter Try.func29, Try.ntmps29
      go_wp2_with (go_at_call 41; refine (rint_any _ _).mono ?_; rintro e w' ⟨rfl, rfl⟩)
      refine bodyPost_ret ?_ rfl ⟨rfl, ((Below.refl _ _).alloc (by exact Nat.le_refl _) _).alloc (by simp) _⟩
      simp [results, Try.results29, go_sem]
    · rw [vres_some e (by omega), show M.fromB 6 (l.take 0) = (1, 1, ⟨#[]⟩) from rfl]
      clear e ha
      go_enter Try.func29, Try.ntmps29
      go_wp2_with (go_at_call 41; refine (rint_any _ _).mono ?_; rintro e w' ⟨rfl, rfl⟩)
      refine bodyPost_ret ?_ rfl ⟨rfl, ((Below.refl _ _).alloc (by exact Nat.le_refl _) _).alloc (by simp) _⟩
      simp [results, Try.results29, go_sem]
  · subst h
    have ez : M.isz 1 = 1 := rfl
    by_cases hs : l.length < 1
    · rw [vres_short e hs]
      clear e ha
      go_enter Try.func29, Try.ntmps29
      go_wp2_with (go_at_call 42; refine (size_any 1 _).mono ?_; rintro e w' ⟨rfl, rfl⟩; rw [ez])
      refine bodyPost_ret ?_ rfl ⟨rfl, (Below.refl _ _).alloc (by exact Nat.le_refl _) _⟩
      simp [results, Try.results29, go_sem]
    · rw [vres_some e hs, show M.fromB 1 (l.take 1) = (1, M.sgn (l.take 1), ⟨#[]⟩) from rfl]
      obtain ⟨b, o, rfl, hc⟩ := ha (by omega)
      have c0 := cell_on ((Below.refl w.heap.size w).alloc (Nat.le_refl _) (.cells #[.int .i64 0, .int .i64 0, .string ⟨#[]⟩] 47)) (hc 0 (by omega))
      have h0 : l.getD 0 0 < 256 := HL.out _ (by rw [List.getD_eq_getElem?_getD, List.getElem?_eq_getElem (show 0 < l.length by omega)]; exact List.getElem_mem _)
      have e0 := sgn_one _ h0
      have et : l.take 1 = [l.getD 0 0] := by
        rw [List.take_succ_eq_append_getElem (show 0 < l.length by omega)]
        simp [List.getD_eq_getElem?_getD, show 0 < l.length by omega]
      rw [← et] at e0
      rw [Nat.add_zero] at c0
      clear e ha h0 et
      generalize l.getD 0 0 = x0 at *
      go_enter Try.func29, Try.ntmps29
      go_wp2_with (go_at_call 42; refine (size_any 1 _).mono ?_; rintro e w' ⟨rfl, rfl⟩; rw [ez])
      rw [e0]
      go_loopw [8, 9] (fun t i wr => ∃ k : Nat, wr = w.alloc (.cells #[.int .i64 0, .int .i64 0, .string ⟨#[]⟩] 47) ∧ 1 ≤ k ∧ k ≤ 1 ∧ i = .int .i64 k ∧ t = .int .i64 (M.sgn (l.take k))) (fun _ i _ => 1 - (intOf i).toNat)
      case atStart => exact ⟨1, rfl, by omega, by omega, rfl, rfl⟩
      case round =>
        obtain ⟨k, rfl, hk1, hk2, rfl, rfl⟩ := hrel
        by_cases hlt : k < 1
        · omega
        · have e8 : k = 1 := by omega
          subst e8
          clear hc c0 e0 hlt
          go_wp2_with (go_at_call 41; refine (rint_any _ _).mono ?_; rintro e w' ⟨rfl, rfl⟩)
          refine bodyPost_ret ?_ rfl ⟨rfl, ((Below.refl _ _).alloc (by exact Nat.le_refl _) _).alloc (by simp) _⟩
          simp [results, Try.results29, go_sem]
  · subst h
    have ez : M.isz 2 = 2 := rfl
    by_cases hs : l.length < 2
    · rw [vres_short e hs]
      clear e ha
      go_enter Try.func29, Try.ntmps29
      go_wp2_with (go_at_call 42; refine (size_any 2 _).mono ?_; rintro e w' ⟨rfl, rfl⟩; rw [ez])
      refine bodyPost_ret ?_ rfl ⟨rfl, (Below.refl _ _).alloc (by exact Nat.le_refl _) _⟩
      simp [results, Try.results29, go_sem]
    · rw [vres_some e hs, show M.fromB 2 (l.take 2) = (1, M.sgn (l.take 2), ⟨#[]⟩) from rfl]
      obtain ⟨b, o, rfl, hc⟩ := ha (by omega)
      have c0 := cell_on ((Below.refl w.heap.size w).alloc (Nat.le_refl _) (.cells #[.int .i64 0, .int .i64 0, .string ⟨#[]⟩] 47)) (hc 0 (by omega))
      have h0 : l.getD 0 0 < 256 := HL.out _ (by rw [List.getD_eq_getElem?_getD, List.getElem?_eq_getElem (show 0 < l.length by omega)]; exact List.getElem_mem _)
      have e0 := sgn_one _ h0
      have et : l.take 1 = [l.getD 0 0] := by
        rw [List.take_succ_eq_append_getElem (show 0 < l.length by omega)]
        simp [List.getD_eq_getElem?_getD, show 0 < l.length by omega]
      rw [← et] at e0
      rw [Nat.add_zero] at c0
      clear e ha h0 et
      generalize l.getD 0 0 = x0 at *
      go_enter Try.func29, Try.ntmps29
      go_wp2_with (go_at_call 42; refine (size_any 2 _).mono ?_; rintro e w' ⟨rfl, rfl⟩; rw [ez])
      rw [e0]
      go_loopw [8, 9] (fun t i wr => ∃ k : Nat, wr = w.alloc (.cells #[.int .i64 0, .int .i64 0, .string ⟨#[]⟩] 47) ∧ 1 ≤ k ∧ k ≤ 2 ∧ i = .int .i64 k ∧ t = .int .i64 (M.sgn (l.take k))) (fun _ i _ => 2 - (intOf i).toNat)
      case atStart => exact ⟨1, rfl, by omega, by omega, rfl, rfl⟩
      case round =>
        obtain ⟨k, rfl, hk1, hk2, rfl, rfl⟩ := hrel
        by_cases hlt : k < 2
        · have ck := cell_on ((Below.refl w.heap.size w).alloc (Nat.le_refl _) (.cells #[.int .i64 0, .int .i64 0, .string ⟨#[]⟩] 47)) (hc k (by omega))
          have hx : l.getD k 0 < 256 := HL.out _ (by rw [List.getD_eq_getElem?_getD, List.getElem?_eq_getElem (show k < l.length by omega)]; exact List.getElem_mem _)
          have HN := Hid.mk' (M.sgn_next l k hk1 (by omega))
          obtain ⟨hr3, hr4⟩ := sgn_take_range l HL.out k (by omega)
          have HO := Hid.mk' (or_i64 _ _ hx hr3 hr4)
          clear hc c0 e0
          generalize l.getD k 0 = x at *
          generalize M.sgn (l.take k) = m at *
          go_wp2
          go_roundw
          case rel => exact ⟨k + 1, by trivial, by omega, by omega, by go_num, by rw [HN.out, HO.out]⟩
          case measure => simp [intOf]; omega
        · have e8 : k = 2 := by omega
          subst e8
          clear hc c0 e0 hlt
          go_wp2_with (go_at_call 41; refine (rint_any _ _).mono ?_; rintro e w' ⟨rfl, rfl⟩)
          refine bodyPost_ret ?_ rfl ⟨rfl, ((Below.refl _ _).alloc (by exact Nat.le_refl _) _).alloc (by simp) _⟩
          simp [results, Try.results29, go_sem]
  · subst h
    have ez : M.isz 3 = 4 := rfl
    by_cases hs : l.length < 4
    · rw [vres_short e hs]
      clear e ha
      go_enter Try.func29, Try.ntmps29
      go_wp2_with (go_at_call 42; refine (size_any 3 _).mono ?_; rintro e w' ⟨rfl, rfl⟩; rw [ez])
      refine bodyPost_ret ?_ rfl ⟨rfl, (Below.refl _ _).alloc (by exact Nat.le_refl _) _⟩
      simp [results, Try.results29, go_sem]
    · rw [vres_some e hs, show M.fromB 3 (l.take 4) = (1, M.sgn (l.take 4), ⟨#[]⟩) from rfl]
      obtain ⟨b, o, rfl, hc⟩ := ha (by omega)
      have c0 := cell_on ((Below.refl w.heap.size w).alloc (Nat.le_refl _) (.cells #[.int .i64 0, .int .i64 0, .string ⟨#[]⟩] 47)) (hc 0 (by omega))
      have h0 : l.getD 0 0 < 256 := HL.out _ (by rw [List.getD_eq_getElem?_getD, List.getElem?_eq_getElem (show 0 < l.length by omega)]; exact List.getElem_mem _)
      have e0 := sgn_one _ h0
      have et : l.take 1 = [l.getD 0 0] := by
        rw [List.take_succ_eq_append_getElem (show 0 < l.length by omega)]
        simp [List.getD_eq_getElem?_getD, show 0 < l.length by omega]
      rw [← et] at e0
      rw [Nat.add_zero] at c0
      clear e ha h0 et
      generalize l.getD 0 0 = x0 at *
      go_enter Try.func29, Try.ntmps29
      go_wp2_with (go_at_call 42; refine (size_any 3 _).mono ?_; rintro e w' ⟨rfl, rfl⟩; rw [ez])
      rw [e0]
      go_loopw [8, 9] (fun t i wr => ∃ k : Nat, wr = w.alloc (.cells #[.int .i64 0, .int .i64 0, .string ⟨#[]⟩] 47) ∧ 1 ≤ k ∧ k ≤ 4 ∧ i = .int .i64 k ∧ t = .int .i64 (M.sgn (l.take k))) (fun _ i _ => 4 - (intOf i).toNat)
      case atStart => exact ⟨1, rfl, by omega, by omega, rfl, rfl⟩
      case round =>
        obtain ⟨k, rfl, hk1, hk2, rfl, rfl⟩ := hrel
        by_cases hlt : k < 4
        · have ck := cell_on ((Below.refl w.heap.size w).alloc (Nat.le_refl _) (.cells #[.int .i64 0, .int .i64 0, .string ⟨#[]⟩] 47)) (hc k (by omega))
          have hx : l.getD k 0 < 256 := HL.out _ (by rw [List.getD_eq_getElem?_getD, List.getElem?_eq_getElem (show k < l.length by omega)]; exact List.getElem_mem _)
          have HN := Hid.mk' (M.sgn_next l k hk1 (by omega))
          obtain ⟨hr3, hr4⟩ := sgn_take_range l HL.out k (by omega)
          have HO := Hid.mk' (or_i64 _ _ hx hr3 hr4)
          clear hc c0 e0
          generalize l.getD k 0 = x at *
          generalize M.sgn (l.take k) = m at *
          go_wp2
          go_roundw
          case rel => exact ⟨k + 1, by trivial, by omega, by omega, by go_num, by rw [HN.out, HO.out]⟩
          case measure => simp [intOf]; omega
        · have e8 : k = 4 := by omega
          subst e8
          clear hc c0 e0 hlt
          go_wp2_with (go_at_call 41; refine (rint_any _ _).mono ?_; rintro e w' ⟨rfl, rfl⟩)
          refine bodyPost_ret ?_ rfl ⟨rfl, ((Below.refl _ _).alloc (by exact Nat.le_refl _) _).alloc (by simp) _⟩
          simp [results, Try.results29, go_sem]
  · subst h
    have ez : M.isz 4 = 8 := rfl
    by_cases hs : l.length < 8
    · rw [vres_short e hs]
      clear e ha
      go_enter Try.func29, Try.ntmps29
      go_wp2_with (go_at_call 42; refine (size_any 4 _).mono ?_; rintro e w' ⟨rfl, rfl⟩; rw [ez])
      refine bodyPost_ret ?_ rfl ⟨rfl, (Below.refl _ _).alloc (by exact Nat.le_refl _) _⟩
      simp [results, Try.results29, go_sem]
    · rw [vres_some e hs, show M.fromB 4 (l.take 8) = (1, M.sgn (l.take 8), ⟨#[]⟩) from rfl]
      obtain ⟨b, o, rfl, hc⟩ := ha (by omega)
      have c0 := cell_on ((Below.refl w.heap.size w).alloc (Nat.le_refl _) (.cells #[.int .i64 0, .int .i64 0, .string ⟨#[]⟩] 47)) (hc 0 (by omega))
      have h0 : l.getD 0 0 < 256 := HL.out _ (by rw [List.getD_eq_getElem?_getD, List.getElem?_eq_getElem (show 0 < l.length by omega)]; exact List.getElem_mem _)
      have e0 := sgn_one _ h0
      have et : l.take 1 = [l.getD 0 0] := by
        rw [List.take_succ_eq_append_getElem (show 0 < l.length by omega)]
        simp [List.getD_eq_getElem?_getD, show 0 < l.length by omega]
      rw [← et] at e0
      rw [Nat.add_zero] at c0
      clear e ha h0 et
      generalize l.getD 0 0 = x0 at *
      go_enter Try.func29, Try.ntmps29
      go_wp2_with (go_at_call 42; refine (size_any 4 _).mono ?_; rintro e w' ⟨rfl, rfl⟩; rw [ez])
      rw [e0]
      go_loopw [8, 9] (fun t i wr => ∃ k : Nat, wr = w.alloc (.cells #[.int .i64 0, .int .i64 0, .string ⟨#[]⟩] 47) ∧ 1 ≤ k ∧ k ≤ 8 ∧ i = .int .i64 k ∧ t = .int .i64 (M.sgn (l.take k))) (fun _ i _ => 8 - (intOf i).toNat)
      case atStart => exact ⟨1, rfl, by omega, by omega, rfl, rfl⟩
      case round =>
        obtain ⟨k, rfl, hk1, hk2, rfl, rfl⟩ := hrel
        by_cases hlt : k < 8
        · have ck := cell_on ((Below.refl w.heap.size w).alloc (Nat.le_refl _) (.cells #[.int .i64 0, .int .i64 0, .string ⟨#[]⟩] 47)) (hc k (by omega))
          have hx : l.getD k 0 < 256 := HL.out _ (by rw [List.getD_eq_getElem?_getD, List.getElem?_eq_getElem (show k < l.length by omega)]; exact List.getElem_mem _)
          have HN := Hid.mk' (M.sgn_next l k hk1 (by omega))
          obtain ⟨hr3, hr4⟩ := sgn_take_range l HL.out k (by omega)
          have HO := Hid.mk' (or_i64 _ _ hx hr3 hr4)
          clear hc c0 e0
          generalize l.getD k 0 = x at *
          generalize M.sgn (l.take k) = m at *
          go_wp2
          go_roundw
          case rel => exact ⟨k + 1, by trivial, by omega, by omega, by go_num, by rw [HN.out, HO.out]⟩
          case measure => simp [intOf]; omega
        · have e8 : k = 8 := by omega
          subst e8
          clear hc c0 e0 hlt
          go_wp2_with (go_at_call 41; refine (rint_any _ _).mono ?_; rintro e w' ⟨rfl, rfl⟩)
          refine bodyPost_ret ?_ rfl ⟨rfl, ((Below.refl _ _).alloc (by exact Nat.le_refl _) _).alloc (by simp) _⟩
          simp [results, Try.results29, go_sem]
  · rw [vres_none e]
    have b0 : ((t : Int) == 0) = false := by rw [beq_eq_false_iff_ne]; omega
    have b1 : ((t : Int) == 1) = false := by rw [beq_eq_false_iff_ne]; omega
    have b2 : ((t : Int) == 2) = false := by rw [beq_eq_false_iff_ne]; omega
    have b3 : ((t : Int) == 3) = false := by rw [beq_eq_false_iff_ne]; omega
    have b4 : ((t : Int) == 4) = false := by rw [beq_eq_false_iff_ne]; omega
    have b5 : ((t : Int) == 5) = false := by rw [beq_eq_false_iff_ne]; omega
    have b6 : ((t : Int) == 6) = false := by rw [beq_eq_false_iff_ne]; omega
    clear e ha
    go_enter Try.func29, Try.ntmps29
    go_wp2
    refine bodyPost_ret ?_ rfl ⟨rfl, (Below.refl _ _).alloc (by exact Nat.le_refl _) _⟩
    simp [results, Try.results29, go_sem]
  · rw [vres_none e]
    have b0 : ((t : Int) == 0) = false := by rw [beq_eq_false_iff_ne]; omega
    have b1 : ((t : Int) == 1) = false := by rw [beq_eq_false_iff_ne]; omega
    have b2 : ((t : Int) == 2) = false := by rw [beq_eq_false_iff_ne]; omega
    have b3 : ((t : Int) == 3) = false := by rw [beq_eq_false_iff_ne]; omega
    have b4 : ((t : Int) == 4) = false := by rw [beq_eq_false_iff_ne]; omega
    have b5 : ((t : Int) == 5) = false := by rw [beq_eq_false_iff_ne]; omega
    have b6 : ((t : Int) == 6) = false := by rw [beq_eq_false_iff_ne]; omega
    clear e ha
    go_enter Try.func29, Try.ntmps29
    go_wp2
    refine bodyPost_ret ?_ rfl ⟨rfl, (Below.refl _ _).alloc (by exact Nat.le_refl _) _⟩
    simp [results, Try.results29, go_sem]
  · have b0 : ((t : Int) == 0) = false := by rw [beq_eq_false_iff_ne]; omega
    have b1 : ((t : Int) == 1) = false := by rw [beq_eq_false_iff_ne]; omega
    have b2 : ((t : Int) == 2) = false := by rw [beq_eq_false_iff_ne]; omega
    have b3 : ((t : Int) == 3) = false := by rw [beq_eq_false_iff_ne]; omega
    have b4 : ((t : Int) == 4) = false := by rw [beq_eq_false_iff_ne]; omega
    have b5 : ((t : Int) == 5) = false := by rw [beq_eq_false_iff_ne]; omega
    have b6 : ((t : Int) == 6) = false := by rw [beq_eq_false_iff_ne]; omega
    by_cases hs : l.length < (t - 12) / 2
    · rw [vres_short e hs]
      clear e ha
      go_enter Try.func29, Try.ntmps29
      go_wp2
      refine bodyPost_ret ?_ rfl ⟨rfl, (Below.refl _ _).alloc (by exact Nat.le_refl _) _⟩
      simp [results, Try.results29, go_sem]
    · rw [vres_some e hs]
      obtain ⟨s, hsz⟩ : ∃ s, (t - 12) / 2 = s := ⟨_, rfl⟩
      have hsz' : ((t : Int) - 12) / 2 = (s : Int) := by omega
      rw [hsz] at hs ⊢
      have f1 : (s : Int) ≤ (ca : Int) := by omega
      have f2 : (0 : Int) ≤ (s : Int) := by omega
      have hcv : ∀ o, (convert 24 9 (.slice a s ca)).run Try.prog (w.alloc o) = .ok (.string (M.ba (l.take s))) (w.alloc o) := fun o => conv_sees ((HV.out.take s (by omega)).below ((Below.refl _ _).alloc (Nat.le_refl _) _))
      by_cases ho : t % 2 = 1
      · have ef : M.fromB t (l.take s) = (2, 0, M.ba (l.take s)) := by unfold M.fromB; rw [if_neg (by omega), if_neg (by omega), if_neg (by omega), if_pos ho]
        have bo : ((t : Int) % 2 == 1) = true := by rw [beq_iff_eq]; omega
        rw [ef]
        clear e ha ef ho hsz
        go_enter Try.func29, Try.ntmps29
        go_wp2
        refine bodyPost_ret ?_ rfl ⟨rfl, (Below.refl _ _).alloc (by exact Nat.le_refl _) _⟩
        simp [results, Try.results29, go_sem]
        exact hsz'
      · have ef : M.fromB t (l.take s) = (3, 0, M.ba (l.take s)) := by unfold M.fromB; rw [if_neg (by omega), if_neg (by omega), if_neg (by omega), if_neg ho]
        have bo : ((t : Int) % 2 == 1) = false := by rw [beq_eq_false_iff_ne]; omega
        rw [ef]
        clear e ha ef ho hsz
        go_enter Try.func29, Try.ntmps29
        go_wp2
        refine bodyPost_ret ?_ rfl ⟨rfl, (Below.refl _ _).alloc (by exact Nat.le_refl _) _⟩
        simp [results, Try.results29, go_sem]
        exact hsz'
end Go.Proofs.Ytdoahehiocmonaa
