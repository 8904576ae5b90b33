/-
  The contracts of record's typeOf, appendBody, signed, fromBody, number.
-/
import Derived.Test.YtdoahehiocmonaaAp
import Derived.Laws.BytesArg
namespace Go.Proofs.Ytdoahehiocmonaa
open Go.RowKit

set_option maxRecDepth 100000 in
set_option maxHeartbeats 400000 in
theorem typeOf_any (k n : Int) (s : ByteArray) (hn : M.R n) (hs : s.size ≤ 4096) (w : World) :
    Calls Try.prog 26 #[.agg #[.int .i64 k, .int .i64 n, .string s]] w fun e w' => e = .returned (.int .u64 (M.typ (k, n, s))) ∧ w' = w.alloc (.cells #[.int .i64 k, .int .i64 n, .string s] 47) := by
  go_enter Try.func26, Try.ntmps26
  go_wp2_with (go_at_call 39; refine (tyi_any _ hn _).mono ?_; rintro e w' ⟨rfl, rfl⟩)
  all_goals
    go_ret
    refine ⟨ret_int ?_, rfl⟩
    try simp only [beq_iff_eq, beq_eq_false_iff_ne] at *
    simp_all [M.typ]
    try omega

theorem tyI_lt (n : Int) : M.tyI n < 7 := by rcases M.tyI_cases n with h | h | h | h | h | h <;> omega
theorem tsz_tyI (n : Int) : M.tsz (M.tyI n) = some (M.isz (M.tyI n)) := by rw [M.tsz_isz, if_pos (tyI_lt n)]
theorem pow_shift (j : Nat) : (2 : Int) ^ (8 * j) = 256 ^ j := by rw [Int.pow_mul]; rfl

theorem be_cell (n : Int) (i : Nat) : [Value.int .u8 (n / 2 ^ (8 * i) % 256)] = [(n / 256 ^ i % 256).toNat].map B8 := by
  show _ = [Value.int .u8 (((n / 256 ^ i % 256).toNat : Nat) : Int)]
  rw [pow_shift]
  congr 2
  omega

set_option maxRecDepth 100000 in
set_option maxHeartbeats 400000 in
theorem appendBody_any (bv : Value) (base nb : Nat) (xs : List Value) (k n : Int) (s : ByteArray) (w : World) (hown : w.ownsRow base 5 1 bv nb xs) (hbase : base ≤ w.heap.size) (hn : M.R n) (hs : s.size ≤ 4096) (hnb : nb ≤ 1000000000) :
    Calls Try.prog 27 #[bv, .agg #[.int .i64 k, .int .i64 n, .string s]] w fun e w' => ∃ v', e = .returned v' ∧ w'.ownsRow base 5 1 v' (nb + (M.body (k, n, s)).length) (xs ++ (M.body (k, n, s)).map B8) ∧ Below base w w' := by
  have hlt := hown.lt
  by_cases hk : k = 1
  · subst hk
    have eb : M.body (1, n, s) = M.be (M.isz (M.tyI n)) n := rfl
    have hc8 := M.isz_le (M.tyI n)
    have ht := tyI_lt n
    have hz := tsz_tyI n
    rw [eb]
    have HO := Hid.mk' hown
    clear hown eb
    generalize M.isz (M.tyI n) = c at *
    go_enter Try.func27, Try.ntmps27
    go_wp2_with (first
      | (go_at_call 39; refine (tyi_any _ hn _).mono ?_; rintro e w' ⟨rfl, rfl⟩)
      | (go_at_call 31; refine (sizeOfT_any _ (by omega) _).mono ?_; rintro e w' ⟨rfl, rfl⟩; rw [hz]; simp only [Option.getD_some, Option.isSome_some]))
    go_loopw [0, 7] (fun t i wr => ∃ (j : Nat) (pre : List Nat), j ≤ c ∧ i = .int .i64 (8 * ((j : Int) - 1)) ∧ M.be c n = pre ++ M.be j n ∧ wr.ownsRow base 5 1 t (nb + pre.length) (xs ++ pre.map B8) ∧ Below base w wr ∧ wr.cell? ⟨w.heap.size, 1, none⟩ = some (.int .i64 n) ∧ w.heap.size < wr.heap.size ∧ (∀ q, t.ownBlock = some q → q ≠ w.heap.size))
      (fun _ i _ => (intOf i + 8).toNat)
    case atStart =>
      refine ⟨c, [], Nat.le_refl _, rfl, rfl, by simpa using HO.out.alloc _, (Below.refl _ _).alloc hbase _, by simp, by simp, fun q hq => ?_⟩
      have := (hlt q hq).2
      omega
    case round =>
      obtain ⟨j, pre, hj, rfl, hpre, hown, hb, hcell, hsz, hq⟩ := hrel
      have hpl : pre.length + j = c := by
        have := congrArg List.length hpre
        simp [M.be_length] at this
        omega
      have HP := Hid.mk' hpre
      have hsz' := hb.size
      clear hpre
      cases j with
      | zero =>
        have HW := Hid.mk' hown
        clear hown hcell
        go_wp2
        go_ret
        have e0 : pre = M.be c n := by have := HP.out; simpa [M.be] using this.symm
        have hw := HW.out
        rw [e0] at hw
        exact ⟨_, rfl, hw, hb⟩
      | succ i =>
        have hs1 := src_one wr 5 24 (.int .u8 (n / 2 ^ (8 * i) % 256)) Try.underlying24 rfl
        have HA := Hid.mk' (append_row _ base _ _ _ 24 _ 1 _ (hown.alloc _) hs1 (by omega) (by simp; omega))
        have hbk := hown.lt
        clear hown hs1
        go_wp2_with (at_builtin; refine wpList_append_run rfl _ _ 24 24 rfl _ _ rfl rfl HA.out ?_; rintro v2 w2 ⟨ho2, hg2, hl2⟩)
        go_roundw
        case rel =>
          have eb := be_cell n i
          refine ⟨i, pre ++ [(n / 256 ^ i % 256).toNat], by omega, by go_num, by rw [HP.out, M.be]; simp, ?_, (hb.alloc (by omega) _).grown hg2 (by simp; omega) (fun q hq' => (hbk q hq').1), ?_, ?_, ?_⟩
          · rw [eb] at ho2
            rw [List.length_append, List.map_append, ← List.append_assoc, ← Nat.add_assoc]
            exact ho2
          · refine hg2.cell (a := ⟨w.heap.size, 1, none⟩) (by rw [World.cell?_alloc_past _ _ _ hsz]; exact hcell) (fun q => hq _ q.symm rfl)
          · have := hg2.size
            simp at this
            omega
          · intro q h'
            rcases hl2 with h2 | h2
            · exact hq q (h2.symm.trans h')
            · rw [h2] at h'
              simp at h'
              omega
        case measure => simp [intOf]; omega
  · have eb : M.body (k, n, s) = M.bl s := by unfold M.body; rw [if_neg hk]
    have tk : (k != 1) = true := by rw [bne_iff_ne]; exact hk
    rw [eb]
    have HA := Hid.mk' (append_row (w.alloc (.cells #[.int .i64 k, .int .i64 n, .string s] 47)) base _ _ _ 9 _ _ _ (hown.alloc _) (src_str _ s) (by rw [M.bl_length]; omega) (by simp; omega))
    clear hown eb hk
    go_enter Try.func27, Try.ntmps27
    go_wp2_with (at_builtin; refine wpList_append_run rfl _ _ 24 9 rfl _ _ rfl rfl HA.out ?_; rintro v2 w2 ⟨ho2, hg2, hl2⟩)
    go_ret
    exact ⟨_, rfl, ho2, ((Below.refl _ _).alloc hbase _).grown hg2 (by simp; omega) (fun q hq' => (hlt q hq').1)⟩

theorem sgn_lay (x : Nat) (r : List Nat) : ((M.nv (x :: r) : Nat) : Int) = x * 256 ^ r.length + M.fi 0 r ∧ M.sgn (x :: r) = (if x < 128 then (x : Int) else (x : Int) - 256) * 256 ^ r.length + M.fi 0 r := by
  constructor
  · have e := M.fi_nv (x :: r) 0
    rw [show ((M.nv (x :: r) : Nat) : Int) = (((x :: r).foldl (fun a y => a * 256 + y) 0 : Nat) : Int) from rfl, ← e]
    show M.fi (0 * 256 + (x : Int)) r = _
    rw [M.fi_mul, Int.zero_mul, Int.zero_add]
  · exact M.fi_mul r _

theorem sgn_small (l : List Nat) (hl : ∀ x ∈ l, x < 256) (h : l.length = 0 ∨ l.length = 1 ∨ l.length = 2 ∨ l.length = 4 ∨ l.length = 8) :
    wrap64 (IntKind.u64.wrap (M.nv l * 2 ^ (64 - 8 * l.length))) / 2 ^ (64 - 8 * l.length) = M.sgn l := by
  have w : ∀ q : Int, IntKind.u64.wrap q = q % 18446744073709551616 := fun q => by simp [IntKind.wrap, IntKind.bits, IntKind.signed]
  rw [w]
  cases l with
  | nil => simp [M.nv, M.sgn, wrap64]
  | cons x r =>
    obtain ⟨e1, e2⟩ := sgn_lay x r
    obtain ⟨f0, f1⟩ := M.fi_pos r (fun y hy => hl y (by simp [hy]))
    have hx := hl x (by simp)
    rw [e1, e2]
    generalize M.fi 0 r = F at *
    rw [List.length_cons] at h ⊢
    clear e1 e2 hl w
    have h' : r.length = 0 ∨ r.length = 1 ∨ r.length = 3 ∨ r.length = 7 := by omega
    unfold wrap64
    rcases h' with h' | h' | h' | h' <;> rw [h'] at f1 ⊢ <;> simp only [Int.reducePow, Nat.reduceAdd, Nat.reduceMul, Nat.reduceSub, Int.pow_zero] at f1 ⊢ <;> split <;> omega

theorem nv_next (l : List Nat) (k : Nat) (h : k < l.length) : M.nv (l.take (k + 1)) = M.nv (l.take k) * 256 + l.getD k 0 := by
  unfold M.nv
  rw [List.take_succ_eq_append_getElem h, List.foldl_append]
  simp [List.getD_eq_getElem?_getD, h]

set_option maxRecDepth 100000 in
set_option maxHeartbeats 400000 in
theorem signed_any (v : Value) (l : List Nat) (w : World) (hv : Sees w v l) (hl : ∀ x ∈ l, x < 256) (h : l.length = 0 ∨ l.length = 1 ∨ l.length = 2 ∨ l.length = 4 ∨ l.length = 8) :
    Calls Try.prog 44 #[v] w fun e w' => e = .returned (.int .i64 (M.sgn l)) ∧ w' = w := by
  obtain ⟨⟨a, ca, rfl, ha⟩, hma⟩ := hv
  have HS := Hid.mk' (sgn_small l hl h)
  have h8 : l.length ≤ 8 := by omega
  clear h
  go_enter Try.func44, Try.ntmps44
  go_wp2
  go_loopw [3, 9] (fun t i wr => ∃ (k m : Nat), wr = w ∧ k ≤ l.length ∧ i = .int .i64 k ∧ t = .int .u64 m ∧ m = M.nv (l.take k) ∧ m < 256 ^ k) (fun _ i _ => l.length - (intOf i).toNat)
  case atStart => exact ⟨0, 0, rfl, by omega, rfl, rfl, rfl, by decide⟩
  case round =>
    obtain ⟨k, m, rfl, hk, rfl, rfl, hm, hmp⟩ := hrel
    have HM := Hid.mk' hm
    have HP := Hid.mk' hmp
    clear hm hmp
    by_cases hlt : k < l.length
    · obtain ⟨b, o, rfl, hc⟩ := ha (by omega)
      have c1 := hc k hlt
      have HN := Hid.mk' (nv_next l k hlt)
      have hx : l.getD k 0 < 256 := by
        apply hl
        rw [show l.getD k 0 = l[k] by simp [List.getD_eq_getElem?_getD, hlt]]
        exact List.getElem_mem hlt
      have hm8 : m < 72057594037927936 := by
        have h1 := HP.out
        have h2 := Nat.pow_le_pow_right (n := 256) (by omega) (show k ≤ 7 by omega)
        omega
      clear hc ha
      generalize l.getD k 0 = x at *
      go_wp2
      go_roundw
      case rel =>
        refine ⟨k + 1, m * 256 + x, by trivial, by omega, by go_num, ?_, by rw [HN.out, HM.out], ?_⟩
        · congr 1
          have := or_u64 m x 8 256 rfl (by omega) (by omega) (by omega) (by omega)
          rw [Int.toNat_natCast] at this
          exact this
        · have := HP.out
          rw [Nat.pow_succ]
          omega
      case measure => simp [intOf]; omega
    · go_wp2
      go_ret
      have e : k = l.length := by omega
      have e2 := HM.out
      rw [e, List.take_length] at e2
      refine ⟨ret_int ?_, rfl⟩
      rw [e2]
      exact HS.out
end Go.Proofs.Ytdoahehiocmonaa
