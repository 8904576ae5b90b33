/-
  A part of the proof.
-/
import Derived.Test.YtjimhikfmccicaaGreatMg4
import Derived.Test.YtjimhikfmccicaaGreatSe
import Derived.ChangeKeysEq
import Derived.Laws.StructEq
namespace Go.Proofs.YtjimhikfmccicaaGreat
open Go.RowKit Go.Maps
theorem ret_ints {a b c d : Int} (h1 : a = c) (h2 : b = d) : Ending.returned (.tuple #[.int .i64 a, .int .i64 b]) = .returned (.tuple #[.int .i64 c, .int .i64 d]) := by rw [h1, h2]
set_option maxRecDepth 100000 in
set_option maxHeartbeats 400000 in
theorem odd_any (n : Int) (w : World) : Calls Tryz.prog 79 #[.int .i64 n] w fun e w' => e = .returned (.bool (decide (n % 2 = 1))) /\ w' = w := by
 have hq := Int.mul_tdiv_add_tmod n 2
 have h1 := Int.lt_tmod_of_pos n (b := 2) (by omega)
 have h2 := Int.tmod_lt_of_pos n (b := 2) (by omega)
 obtain ⟨r, hr⟩ : ∃ r, n.tmod 2 = r := ⟨_, rfl⟩
 rw [hr] at hq h1 h2
 generalize n.tdiv 2 = d at *
 go_enter Tryz.func79, Tryz.ntmps79
 go_wp2
 go_ret
 refine ⟨ret_bool ?_, rfl⟩
 rw [Bool.eq_iff_iff]
 simp
 omega
set_option maxRecDepth 100000 in
set_option maxHeartbeats 400000 in
theorem divide3_any (n : Int) (h : -9223372036854775808 <= n /\ n <= 9223372036854775807) (w : World) : Calls Tryz.prog 109 #[.int .i64 n, .int .i64 3] w fun e w' => e = .returned (.tuple #[.int .i64 (n / 3), .int .i64 (n % 3)]) /\ ∃ q, w' = w.drewN q := by
 have hq := Int.mul_tdiv_add_tmod n 3
 have h1 := Int.lt_tmod_of_pos n (b := 3) (by omega)
 have h2 := Int.tmod_lt_of_pos n (b := 3) (by omega)
 obtain ⟨d, hd⟩ : ∃ d, n.tdiv 3 = d := ⟨_, rfl⟩
 obtain ⟨r, hr⟩ : ∃ r, n.tmod 3 = r := ⟨_, rfl⟩
 rw [hd, hr] at hq
 rw [hr] at h1 h2
 have HQ := Hid.mk' hq
 by_cases hneg : r < 0
 ·have ht : decide (r < 0) = true := by rw [decide_eq_true_iff]; exact hneg
  clear hq
  go_enter Tryz.func109, Tryz.ntmps109
  go_wp2_with fail
  go_quiet (fail)
  go_wp2
  go_ret2
  have := HQ.out
  exact ⟨ret_ints (by unfold wrap64; omega) (by omega), _, rfl⟩
 ·have ht : decide (r < 0) = false := by rw [decide_eq_false_iff_not]; exact hneg
  clear hq
  go_enter Tryz.func109, Tryz.ntmps109
  go_wp2_with fail
  go_quiet (fail)
  go_wp2
  go_ret2
  have := HQ.out
  exact ⟨ret_ints (by unfold wrap64; omega) (by omega), _, rfl⟩
set_option maxRecDepth 100000 in
set_option maxHeartbeats 400000 in
theorem divide65_any (n : Int) (h : -9223372036854775808 <= n /\ n <= 9223372036854775807) (w : World) : Calls Tryz.prog 109 #[.int .i64 n, .int .i64 65] w fun e w' => e = .returned (.tuple #[.int .i64 (n / 65), .int .i64 (n % 65)]) /\ ∃ q, w' = w.drewN q := by
 have hq := Int.mul_tdiv_add_tmod n 65
 have h1 := Int.lt_tmod_of_pos n (b := 65) (by omega)
 have h2 := Int.tmod_lt_of_pos n (b := 65) (by omega)
 obtain ⟨d, hd⟩ : ∃ d, n.tdiv 65 = d := ⟨_, rfl⟩
 obtain ⟨r, hr⟩ : ∃ r, n.tmod 65 = r := ⟨_, rfl⟩
 rw [hd, hr] at hq
 rw [hr] at h1 h2
 have HQ := Hid.mk' hq
 by_cases hneg : r < 0
 ·have ht : decide (r < 0) = true := by rw [decide_eq_true_iff]; exact hneg
  clear hq
  go_enter Tryz.func109, Tryz.ntmps109
  go_wp2_with fail
  go_quiet (fail)
  go_wp2
  go_ret2
  have := HQ.out
  exact ⟨ret_ints (by unfold wrap64; omega) (by omega), _, rfl⟩
 ·have ht : decide (r < 0) = false := by rw [decide_eq_false_iff_not]; exact hneg
  clear hq
  go_enter Tryz.func109, Tryz.ntmps109
  go_wp2_with fail
  go_quiet (fail)
  go_wp2
  go_ret2
  have := HQ.out
  exact ⟨ret_ints (by unfold wrap64; omega) (by omega), _, rfl⟩
def M.kept (p : Int) : Nat := if p % 3 = 0 then 0 else if p % 3 = 1 then 64 else ((p / 3) % 65).toNat
theorem M.kept_le (p : Int) : M.kept p <= 64 := by
 unfold M.kept
 split
 ·omega
 ·split <;> omega
set_option maxRecDepth 100000 in
set_option maxHeartbeats 400000 in
theorem kept_any (p : Int) (h : -9223372036854775808 <= p /\ p <= 9223372036854775807) (w : World) : Calls Tryz.prog 83 #[.int .i64 p] w fun e w' => e = .returned (.int .i64 (M.kept p : Nat)) /\ ∃ q, w' = w.drewN q := by
 have H3 := Hid.mk' (divide3_any p h)
 have H65 := Hid.mk' (divide65_any (p / 3) (by omega))
 have HK : Hid ((p % 3 = 0 -> M.kept p = 0) /\ (p % 3 = 1 -> M.kept p = 64) /\ (p % 3 ≠ 0 -> p % 3 ≠ 1 -> (M.kept p : Int) = (p / 3) % 65)) := by
  refine ⟨fun e => ?_, fun e => ?_, fun e1 e2 => ?_⟩ <;> unfold M.kept
  ·rw [if_pos e]
  ·rw [if_neg (by omega), if_pos e]
  ·rw [if_neg e1, if_neg e2]; omega
 generalize M.kept p = kp at *
 generalize (p / 3) % 65 = y at *
 generalize p / 3 = t at *
 generalize p % 3 = r at *
 go_enter Tryz.func83, Tryz.ntmps83
 go_wp2_with fail
 refine (H3.out _).mono ?_
 rintro e w1 ⟨rfl, q1, rfl⟩
 by_cases h0 : r = 0
 ·have t0 : (r == 0) = true := by rw [h0]; rfl
  have HE := Hid.mk' (HK.out.1 h0)
  clear h0
  go_wp2
  go_ret
  exact ⟨ret_int (by rw [HE.out]; rfl), _, rfl⟩
 ·have t0 : (r == 0) = false := by rw [beq_eq_false_iff_ne]; exact h0
  by_cases h1 : r = 1
  ·have t1 : (r == 1) = true := by rw [h1]; rfl
   have HE := Hid.mk' (HK.out.2.1 h1)
   clear h0 h1
   go_wp2
   go_ret
   exact ⟨ret_int (by rw [HE.out]; rfl), _, rfl⟩
  ·have t1 : (r == 1) = false := by rw [beq_eq_false_iff_ne]; exact h1
   have HE := Hid.mk' (HK.out.2.2 h0 h1)
   clear h0 h1
   go_wp2_with fail
   refine (H65.out _).mono ?_
   rintro e w2 ⟨rfl, q2, rfl⟩
   go_wp2
   go_ret
   exact ⟨ret_int HE.out.symm, _, rfl⟩
def Ins (w : World) (v : Value) (l : List Int) : Prop :=
 (∃ a c, v = .slice a l.length c /\ l.length <= c /\ c <= 9223372036854775807 /\ (1 <= l.length -> ∃ b o, a = some ⟨b, o, none⟩ /\ ∀ j, j < l.length -> w.cell? ⟨b, o + j, none⟩ = some (.int .i64 (l.getD j 0))))
theorem Ins.nil (w : World) : Ins w (.slice none 0 0) [] := ⟨none, 0, rfl, by simp, by omega, fun h => absurd h (by simp)⟩
theorem Ins.on1 {w w' : World} {v : Value} {l : List Int} (h : Ins w v l) {fs : List Nat} (hF : Fr fs w w') (hn : ∀ a n c, v = .slice (some a) n c -> 1 <= n -> a.block ∉ fs) : Ins w' v l := by
 obtain ⟨a, c, rfl, h1, h2, h3⟩ := h
 refine ⟨a, c, rfl, h1, h2, fun h4 => ?_⟩
 obtain ⟨b, o, rfl, h5⟩ := h3 h4
 exact ⟨b, o, rfl, fun j hj => hF.cell (h5 j hj) (hn ⟨b, o, none⟩ _ _ rfl h4)⟩
def Picks (w : World) (pk B : Nat) (l : List Int) : Prop := ∃ v, w.cell? ⟨pk, 0, none⟩ = some v /\ w.frozen? ⟨pk, 0, none⟩ = false /\ Ins w v l /\ ∀ a n c, v = .slice (some a) n c -> 1 <= n -> a.block ≠ pk /\ a.block < B
theorem Fr.frozen {fs : List Nat} {w w' : World} (h : Fr fs w w') {a : Addr} (ha : a.block < w.heap.size) (hn : a.block ∉ fs) : w'.frozen? a = w.frozen? a := by
 unfold World.frozen?
 rw [h.2.2 a.block ha hn]
theorem Picks.fr {w w' : World} {pk B : Nat} {l : List Int} (h : Picks w pk B l) {fs : List Nat} (hF : Fr fs w w') (hpk : pk ∉ fs) (hB : ∀ k ∈ fs, B <= k) : Picks w' pk B l := by
 obtain ⟨v, h1, h2, h3, h4⟩ := h
 have hlt := World.block_lt_of_cell? _ _ h1
 exact ⟨v, hF.cell h1 hpk, (hF.frozen hlt hpk).trans h2, h3.on1 hF (fun a n c e hn hk => by have := (h4 a n c e hn).2; have := hB _ hk; omega), h4⟩
theorem Picks.on {w w' : World} {pk B : Nat} {l : List Int} (h : Picks w pk B l) (hb : Below w.heap.size w w') : Picks w' pk B l := h.fr (Fr.of_below (fs := []) hb) (by simp) (by simp)
theorem picks_set {w : World} {pk b o n c B : Nat} {r : List Int} {u : Value} (c0 : w.cell? ⟨pk, 0, none⟩ = some u) (hf : w.frozen? ⟨pk, 0, none⟩ = false) (hbp : b ≠ pk) (hbB : b < B) (hn : n = r.length) (hc : r.length <= c) (hcm : c <= 9223372036854775807)
  (h : 1 <= r.length -> ∀ j, j < r.length -> w.cell? ⟨b, o + j, none⟩ = some (.int .i64 (r.getD j 0))) : Picks (w.setCell ⟨pk, 0, none⟩ (.slice (some ⟨b, o, none⟩) n c)) pk B r := by
 refine ⟨_, World.cell?_setCell_same _ _ _ c0, by rw [World.frozen?_setCell]; exact hf, ⟨some ⟨b, o, none⟩, c, by rw [hn], hc, hcm, fun h1 => ⟨b, o, rfl, fun j hj => (Fr.of_set w ⟨pk, 0, none⟩ _).cell (h h1 j hj) (by simpa using hbp)⟩⟩, fun a n' c' e _ => ?_⟩
 have : (⟨b, o, none⟩ : Addr) = a := by simpa using (by simpa using e : (⟨b, o, none⟩ : Addr) = a /\ _).1
 rw [<- this]
 exact ⟨hbp, hbB⟩
set_option maxRecDepth 100000 in
set_option maxHeartbeats 400000 in
theorem next_any (pk B : Nat) (l : List Int) (w : World) (h : Picks w pk B l) :
  Calls Tryz.prog 80 #[.pointer (some ⟨pk, 0, none⟩)] w fun e w' => e = .returned (.int .i64 (l.headD 0)) /\ Picks w' pk B l.tail /\ Fr [pk] w w' := by
 have HP := Hid.mk' h
 obtain ⟨v, c0, hf, ⟨a, c, rfl, hc, hcm, hrow⟩, hne⟩ := h
 cases l with
 | nil =>
  clear hrow hne
  go_enter Tryz.func80, Tryz.ntmps80
  go_wp2
  go_ret
  exact ⟨rfl, HP.out, Fr.refl _ _⟩
 | cons x r =>
  obtain ⟨b, o, rfl, hcell⟩ := hrow (by simp)
  have hz : ((((x :: r).length : Nat) : Int) == 0) = false := by rw [beq_eq_false_iff_ne]; simp; omega
  have c1 := hcell 0 (by simp)
  have hcl := hcell
  simp only [Nat.add_zero, List.getD_cons_zero] at c1
  have HH := Hid.mk' hcl
  obtain ⟨hbp, hbB⟩ : b ≠ pk /\ b < B := hne ⟨b, o, none⟩ _ _ rfl (by simp)
  obtain ⟨n, hn⟩ : ∃ n, (x :: r).length = n := ⟨_, rfl⟩
  have hn1 : 1 <= n := by rw [<- hn]; simp
  rw [hn] at c0 hz hc
  have HN := Hid.mk' hn
  have HF := Hid.mk' hf
  clear hrow hne hcell hcl hn HP
  go_enter Tryz.func80, Tryz.ntmps80
  go_wp2
  ·have hc1 : c = 1 := by assumption
   go_ret
   have hl := HN.out
   simp only [List.length_cons] at hl
   have hr0 : r.length = 0 := by omega
   exact ⟨rfl, picks_set c0 HF.out hbp hbB (by omega) (by omega) (by omega) (fun h1 => by omega), (Fr.of_set w ⟨pk, 0, none⟩ _)⟩
  ·go_ret
   have hl := HN.out
   simp only [List.length_cons] at hl
   refine ⟨rfl, picks_set c0 HF.out hbp hbB (by omega) (by omega) (by omega) (fun _ j hj => ?_), (Fr.of_set w ⟨pk, 0, none⟩ _)⟩
   have := HH.out (j + 1) (by simp; omega)
   rw [List.getD_cons_succ] at this
   rw [show o + 1 + j = o + (j + 1) by omega]
   exact this
namespace M
def sec1 (s m : List Nat) (ps : List Int) : List Nat × List Int := if s = m then (s, ps) else (m.take (kept (ps.headD 0)) ++ s.drop (kept (ps.headD 0)), ps.tail)
def secs (S N : List Nat) (ps : List Int) : Nat -> List Nat × List Int
 | 0 => ([], ps)
 | i + 1 => ((secs S N ps i).1 ++ (sec1 (sz (S.drop (64 * i)) 64) (sz (N.drop (64 * i)) 64) (secs S N ps i).2).1, (sec1 (sz (S.drop (64 * i)) 64) (sz (N.drop (64 * i)) 64) (secs S N ps i).2).2)
def len1 (S N : List Nat) (ps : List Int) : Nat × List Int := if N.length = S.length then (S.length, ps) else (if ps.headD 0 % 2 = 1 then N.length else S.length, ps.tail)
def cnt (S N : List Nat) : Nat := (max S.length N.length + 63) / 64
def crash (S N : List Nat) (ps : List Int) : List Nat × List Int :=
 (sz (secs S N (len1 S N ps).2 (cnt S N)).1 (len1 S N ps).1, (secs S N (len1 S N ps).2 (cnt S N)).2)
theorem sec1_length {s m : List Nat} (h1 : s.length = 64) (h2 : m.length = 64) (ps : List Int) : (sec1 s m ps).1.length = 64 := by
 unfold sec1
 have := kept_le (ps.headD 0)
 split
 ·exact h1
 ·simp [h1, h2]; omega
theorem secs_length (S N : List Nat) (ps : List Int) : ∀ i, (secs S N ps i).1.length = 64 * i
 | 0 => rfl
 | i + 1 => by
  rw [secs, List.length_append, secs_length S N ps i, sec1_length (sz_length _ _) (sz_length _ _)]
  omega
def PB (ps : List Int) : Prop := ∀ x ∈ ps, -9223372036854775808 <= x /\ x <= 9223372036854775807
theorem PB.head {ps : List Int} (h : PB ps) : -9223372036854775808 <= ps.headD 0 /\ ps.headD 0 <= 9223372036854775807 := by
 cases ps with
 | nil => simp
 | cons x r => exact h x (by simp)
theorem PB.tail {ps : List Int} (h : PB ps) : PB ps.tail := fun x hx => h x (List.mem_of_mem_tail hx)
theorem sec1_pb {s m : List Nat} {ps : List Int} (h : PB ps) : PB (sec1 s m ps).2 := by
 unfold sec1
 split
 ·exact h
 ·exact h.tail
theorem secs_pb (S N : List Nat) {ps : List Int} (h : PB ps) : ∀ i, PB (secs S N ps i).2
 | 0 => h
 | i + 1 => sec1_pb (secs_pb S N h i)
theorem len1_pb (S N : List Nat) {ps : List Int} (h : PB ps) : PB (len1 S N ps).2 := by
 unfold len1
 split
 ·exact h
 ·exact h.tail
end M
theorem wp_scope_behind5 {P : Program} {a : Act} {w : World} {Q : Exit -> Act -> World -> Prop} {A B C D E body : Code} (l : Nat) (J : Act -> World -> Prop) (μ : Act -> World -> Nat) (hA : findLabel A l = none) (hB : findLabel B l = none) (hC : findLabel C l = none) (hD : findLabel D l = none) (hE : findLabel E l = none)
  (hp : A.wp P (Exit.then (fun a w => B.wp P (Exit.then (fun a w => C.wp P (Exit.then (fun a w => D.wp P (Exit.then (fun a w => E.wp P (Exit.then J (fun _ _ _ => False)) a w) (fun _ _ _ => False)) a w) (fun _ _ _ => False)) a w) (fun _ _ _ => False)) a w) (fun _ _ _ => False)) a w)
  (pass : ∀ a w, J a w -> body.wp P (Exit.jump l (fun a' w' => J a' w' /\ μ a' w' < μ a w) Q) a w) : (Code.scope (A.seq (B.seq (C.seq (D.seq (E.seq ((Code.label l).seq body))))))).wp P Q a w := by
 have five : ∀ (R : Exit -> Act -> World -> Prop), (∀ a w, J a w -> ((Code.label l).seq body).wp P R a w) -> (A.seq (B.seq (C.seq (D.seq (E.seq ((Code.label l).seq body)))))).wp P R a w := by
  intro R hR
  refine wp_seq (wp_mono hp ?_)
  intro e a w h
  cases e with
  | normal =>
   refine wp_seq (wp_mono h ?_)
   intro e a w h
   cases e with
   | normal =>
    refine wp_seq (wp_mono h ?_)
    intro e a w h
    cases e with
    | normal =>
     refine wp_seq (wp_mono h ?_)
     intro e a w h
     cases e with
     | normal =>
      refine wp_seq (wp_mono h ?_)
      intro e a w h
      cases e with
      | normal => exact hR a w h
      | _ => exact h.elim
     | _ => exact h.elim
    | _ => exact h.elim
   | _ => exact h.elim
  | _ => exact h.elim
 refine wp_scope_jumps (rest := .seq .skip body) l J μ (by simp [findLabel, hA, hB, hC, hD, hE]) (five _ fun a' w' h => ?_) (fun a w h => wp_seq (wp_skip (pass a w h)))
 refine wp_seq (wp_label (wp_mono (pass a' w' h) ?_))
 intro e a'' w'' h'
 cases e <;> first | exact h' | exact ⟨h'.1, h'.2.1⟩
theorem u5_size : Tryz.prog.cellsOf 5 = 1 := by kernel_rfl
theorem guard124 : Tryz.prog.eqGuardType Tryz.prog.depth 142 = false := by kernel_rfl
theorem plain5 : Tryz.prog.plainKey 5 = true := by kernel_rfl
theorem run_part_byte (w : World) (A : List Nat) (j : Nat) (hj : j < A.length) : (part 5 (A.map B8).toArray (j * 1)).run Tryz.prog w = .ok (.int .u8 (A.getD j 0 : Nat)) w :=
 run_part_plain w plain5 (by simp [hj, B8])
theorem run_eq_byte (d : Nat) (w : World) (x y : Nat) : (Op.equalIn (d + 1) 5 (.int .u8 (x : Nat)) (.int .u8 (y : Nat))).run Tryz.prog w = .ok (x == y) w := by
 simp only [Op.equalIn]
 simp [run_underlying (P := Tryz.prog) Tryz.underlying5]
 rw [Bool.eq_iff_iff]
 simp
 omega
theorem run_eqItems_bytes (d : Nat) (w : World) (A B : List Nat) (n : Nat) (hA : A.length = n) (hB : B.length = n) : ∀ is : List Nat, (∀ j ∈ is, j < n) ->
  (Op.eqItems (d + 1) 5 1 (A.map B8).toArray (B.map B8).toArray is).run Tryz.prog w = .ok (is.all fun j => A.getD j 0 == B.getD j 0) w
 | [], _ => by simp [Op.eqItems]
 | j :: is, h => by
  have h1 := run_part_byte w A j (by rw [hA]; exact h j (by simp))
  have h2 := run_part_byte w B j (by rw [hB]; exact h j (by simp))
  have ih := run_eqItems_bytes d w A B n hA hB is (fun x hx => h x (by simp [hx]))
  have h3 := run_eq_byte d w (A.getD j 0) (B.getD j 0)
  simp only [Op.eqItems, Sem.run_bind, h1, h2, h3, Result.andThen_ok, List.all_cons]
  cases (A.getD j 0 == B.getD j 0)
  ·rfl
  ·simpa using ih
theorem all_eq (A B : List Nat) (n : Nat) (hA : A.length = n) (hB : B.length = n) : ((List.range n).all fun j => A.getD j 0 == B.getD j 0) = decide (A = B) := by
 by_cases h : A = B
 ·subst h
  simp
 ·rw [decide_eq_false h, List.all_eq_false]
  refine Decidable.by_contra fun hn => h (M.eq_of_getD A B (by omega) fun j hj => ?_)
  refine Decidable.by_contra fun hne => hn ⟨j, by simp; omega, by simpa using hne⟩
theorem run_neq_sector (A B : List Nat) (hA : A.length = 64) (hB : B.length = 64) (w : World) : (binOp .neq 142 (.agg (A.map B8).toArray) (.agg (B.map B8).toArray)).run Tryz.prog w = .ok (.bool (!decide (A = B))) w := by
 obtain ⟨i0, hi, hz0, hz1, hz2⟩ := info_parts Tryz.info5
 have h := run_equalIn_array (P := Tryz.prog) w 9999 (A.map B8).toArray (B.map B8).toArray Tryz.underlying142 hi
 rw [u5_size, run_eqItems_bytes 9998 w A B 64 hA hB (List.range 64) (fun j hj => by simpa using hj), all_eq A B 64 hA hB] at h
 simp only [binOp, Op.equal, Sem.run_bind]
 rw [show Op.maxDepth = 9999 + 1 from rfl, h]
 rfl
theorem run_alloc124 (w : World) : (Instr.alloc 142 true (.tuple #[])).run Tryz.prog w = .ok (.pointer (some ⟨w.heap.size, 0, none⟩)) (w.alloc (.cells Z64 142)) := by kernel_rfl
theorem wp_alloc124 {o : Oper} {a : Act} {w : World} {K : Act -> World -> Prop} {Q : Exit -> Act -> World -> Prop} (ho : o.op = .alloc 142)
  (h : K (a.put o.dst (.pointer (some ⟨w.heap.size, 0, none⟩))) (w.alloc (.cells Z64 142))) : o.wp Tryz.prog a w K Q := by
 unfold Oper.wp execOp
 simp only [ho]
 rw [Sem.run_bind, run_alloc124]
 exact h
theorem sees_sector {w : World} {g : Nat} {s : List Nat} {fr : Nat × Nat} (h : w.heap[g]? = some (.cells (s.map B8).toArray 142 fr)) (hl : s.length = 64) : Sees w (.slice (some ⟨g, 0, none⟩) 64 64) s := by
 refine ⟨⟨some ⟨g, 0, none⟩, 64, by rw [hl], fun _ => ⟨g, 0, rfl, fun j hj => ?_⟩⟩, by omega⟩
 rw [cell_of_row w g (0 + j) _ 142 fr h]
 simp [hj, B8]
theorem copy_sectors {w : World} {g h : Nat} {s m : List Nat} (hg : w.heap[g]? = some (.cells (s.map B8).toArray 142 (0, 0))) (hh : w.heap[h]? = some (.cells (m.map B8).toArray 142 (0, 0))) (hs : s.length = 64) (hm : m.length = 64) {k : Nat} (hk : k <= 64) :
  ∃ w', (Builtin.copy_ #[54, 54] 3 #[.slice (some ⟨g, 0, none⟩) k 64, .slice (some ⟨h, 0, none⟩) k 64]).run Tryz.prog w = .ok (goInt k) w' /\ w'.heap[g]? = some (.cells ((m.take k ++ s.drop k).map B8).toArray 142 (0, 0)) /\ Fr [g] w w' := by
 obtain ⟨i0, hi0, hz0, hz1, hz2⟩ := info_parts Tryz.info5
 have hr := run_copy_wide (P := Tryz.prog) w 54 54 3 5 i0 g 0 k 64 ⟨h, 0, none⟩ k 64 (s.map B8).toArray 142 ((m.take k).map B8) Tryz.underlying54 hi0 hg
  (by rw [hz1, List.length_map, List.length_take, Nat.mul_one, show Nat.min k k = k from Nat.min_self k]; omega) (fun j u hu => by
   have hlt : j < (m.take k).length := by simpa using (List.getElem?_eq_some_iff.1 hu).1
   have hlt' : j < m.length := by rw [List.length_take] at hlt; omega
   rw [Addr.add_lit, cell_of_row w h (0 + j) _ 142 (0, 0) hh]
   simp [List.getElem?_take, List.getElem?_eq_getElem hlt', B8] at hu
   simp [hlt', B8, <- hu.2]) (by simp; omega) (one_B8 _)
 rw [show Nat.min k k = k from Nat.min_self k] at hr
 refine ⟨_, hr, ?_, Fr.of_setRow w g _⟩
 rw [setRow_heap w g _ _ 142 _ hg]
 rw [List.take_zero, List.nil_append, Nat.zero_add, List.length_map, List.length_take, List.toList_toArray, List.map_append, List.map_drop, show min k m.length = k by omega]
theorem wp_store124 {o : Oper} {a : Act} {w : World} {K : Act -> World -> Prop} {Q : Exit -> Act -> World -> Prop} (x y : Operand) (ho : o.op = .store 142 x y) (g : Nat) (cur CS : Array Value) (hx : a.eval x = .pointer (some ⟨g, 0, none⟩)) (hy : a.eval y = .agg CS)
  (hg : w.heap[g]? = some (.cells cur 142 (0, 0))) (hcur : cur.size = 64) (hC : CS.size = 64) (h1 : ∀ v ∈ CS.toList, v.oneCell' = true)
  (h : ∀ w', w'.heap[g]? = some (.cells CS 142 (0, 0)) -> Fr [g] w w' -> K (a.put o.dst undef) w') : o.wp Tryz.prog a w K Q := by
 have hth : w.there g 0 CS.toList.length := fun j hj => by
  rw [Array.length_toList, hC] at hj
  refine ⟨?_, by simp [World.frozen?, hg]⟩
  rw [cell_of_row w g (0 + j) cur _ (0, 0) hg, Array.getElem?_eq_getElem (by rw [hcur]; omega)]
  rfl
 obtain ⟨a1, a2, a3, cur', a4, a5, a6⟩ := setCells_get g 0 142 CS.toList w cur 0 hg
 have h7 := a6 (by rw [Array.length_toList, hC, hcur]; omega)
 rw [Nat.zero_add, Nat.zero_add, List.take_zero, List.nil_append, List.take_of_length_le (by rw [Array.length_toList, Array.length_toList, a5, hC, hcur]; omega)] at h7
 obtain rfl : cur' = CS := Array.ext' h7
 have hK := h _ a4 ⟨⟨a3.os, a3.tape, a3.output⟩, by rw [a2]; exact Nat.le_refl _, fun k _ hk => a1 k (fun q => hk (by simp [q]))⟩
 exact wp_store_mid 142 x y ho g 0 cur' hx hy (by simpa using hth) (by rw [hC]; exact size124) (Array.all_eq_true_iff_forall_mem.2 (fun v hv => h1 v (by simpa using hv))) hK
end Go.Proofs.YtjimhikfmccicaaGreat
