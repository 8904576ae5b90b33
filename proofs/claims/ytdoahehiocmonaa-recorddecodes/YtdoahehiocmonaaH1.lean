/-
  The contracts of the laws' helpers: num, CopyValues, EqValues, Values, Light, heavy, wakes.
-/
import Derived.Test.YtdoahehiocmonaaR4
namespace Go.Proofs.Ytdoahehiocmonaa
open Go.RowKit

set_option maxRecDepth 100000 in
set_option maxHeartbeats 400000 in
theorem num_any (e : Int) (w : World) : Calls Try.prog 12 #[.int .i64 e] w fun x w' => x = .returned (.int .i64 e) ∧ w' = w := by
  go_enter Try.func12, Try.ntmps12
  go_wp2
  go_ret
  exact ⟨rfl, rfl⟩

set_option maxRecDepth 100000 in
set_option maxHeartbeats 400000 in
theorem copyV_any (v : Value) (L : List M.V3) (w : World) (hv : Vals w v L) (h200 : L.length ≤ 200) :
    Calls Try.prog 10 #[v] w fun e w' => ∃ v', e = .returned v' ∧ w'.ownsRow w.heap.size 47 3 v' L.length (VCs L) ∧ Below w.heap.size w w' := by
  obtain ⟨⟨a, ca, rfl, ha⟩, hma⟩ := hv
  go_enter Try.func10, Try.ntmps10
  go_wp2
  go_loopw [3, 4] (fun t i wr => ∃ k : Nat, k ≤ L.length ∧ i = .int .i64 k ∧ Below w.heap.size w wr ∧ wr.ownsRow w.heap.size 47 3 t k (VCs (L.take k))) (fun _ i _ => L.length - (intOf i).toNat)
  case atStart => exact ⟨0, by omega, rfl, Below.refl _ _, World.ownsRow_nil _ _ _ _⟩
  case round =>
    obtain ⟨k, hk, rfl, hb, ho⟩ := hrel
    have hsz := hb.size
    have hbk := ho.lt
    by_cases hlt : k < L.length
    · obtain ⟨b, o, rfl, hc⟩ := ha (by omega)
      obtain ⟨c1, c2, c3⟩ := hc k hlt
      have HT := Hid.mk' (M.take_getD L k hlt)
      obtain ⟨⟨x1, x2, x3⟩, hx⟩ : ∃ x, L.getD k M.z0 = x := ⟨_, rfl⟩
      have HX := Hid.mk' hx
      rw [hx] at c1 c2 c3
      have d1 := cell_on hb c1
      have d2 := cell_on hb c2
      have d3 := cell_on hb c3
      have HA := Hid.mk' (append_val _ w.heap.size _ _ _ _ 1 _ (ho.alloc _) (src_val wr (x1, x2, x3)) (by omega) (by simp; omega))
      clear hc ha c1 c2 c3 hx ho
      simp only at d1 d2 d3
      go_wp2_with (at_builtin; refine wpList_append_run rfl _ _ 23 23 rfl _ _ rfl rfl HA.out ?_; rintro v5 w5 ⟨ho5, hg5, hl5⟩)
      go_roundw
      case rel =>
        refine ⟨k + 1, by omega, by go_num, (hb.alloc hsz _).grown hg5 (by simp; omega) (fun q hq => (hbk q hq).1), ?_⟩
        rw [HT.out, HX.out, VCs_snoc]
        exact ho5
      case measure => simp [intOf]; omega
    · have e : k = L.length := by omega
      have ho' := ho
      rw [e, List.take_length] at ho'
      have HO := Hid.mk' ho'
      clear ho ho' e
      go_wp2
      go_ret
      exact ⟨_, rfl, HO.out, hb⟩

set_option maxRecDepth 100000 in
set_option maxHeartbeats 400000 in
theorem eqV_same (va vb : Value) (L : List M.V3) (w : World) (ha : Vals w va L) (hb : Vals w vb L) :
    Calls Try.prog 14 #[va, vb] w fun e w' => e = .returned (.bool true) ∧ ∃ nq, w' = w.drewN nq := by
  obtain ⟨⟨a, ca, rfl, ha⟩, hma⟩ := ha
  obtain ⟨⟨b, cb, rfl, hb⟩, hmb⟩ := hb
  go_enter Try.func14, Try.ntmps14
  go_wp2
  go_loopw [5] (fun i wr => ∃ k nq : Nat, k ≤ L.length ∧ i = .int .i64 k ∧ wr = w.drewN nq) (fun i _ => L.length - (intOf i).toNat)
  case atStart => exact ⟨0, 0, by omega, rfl, rfl⟩
  case round =>
    obtain ⟨k, nq0, hk, rfl, hw⟩ := hrel
    by_cases hlt : k < L.length
    · obtain ⟨b1, o1, rfl, hc1⟩ := ha (by omega)
      obtain ⟨b2, o2, rfl, hc2⟩ := hb (by omega)
      obtain ⟨p1, p2, p3⟩ := hc1 k hlt
      obtain ⟨q1, q2, q3⟩ := hc2 k hlt
      obtain ⟨⟨x1, x2, x3⟩, hx⟩ : ∃ x, L.getD k M.z0 = x := ⟨_, rfl⟩
      rw [hx] at p1 p2 p3 q1 q2 q3
      have hbel : Below w.heap.size w wr := by rw [hw]; exact below_drewN (Below.refl _ _) _
      have c1 := cell_on hbel p1
      have c2 := cell_on hbel p2
      have c3 := cell_on hbel p3
      have c4 := cell_on hbel q1
      have c5 := cell_on hbel q2
      have c6 := cell_on hbel q3
      have HW := Hid.mk' hw
      clear hc1 hc2 ha hb p1 p2 p3 q1 q2 q3 hx hw hbel
      simp only at c1 c2 c3 c4 c5 c6
      go_wp2
      go_quiet (fail)
      go_wp2
      go_roundw
      case rel => exact ⟨k + 1, _, by omega, by go_num, by rw [HW.out]; exact World.drewN_drewN _ _ _⟩
      case measure => simp [intOf]; omega
    · subst hw
      go_wp2
      go_ret
      exact ⟨rfl, _, rfl⟩

set_option maxRecDepth 100000 in
set_option maxHeartbeats 400000 in
theorem light_any (v : Value) (L : List M.V3) (m : Int) (w : World) (hv : Vals w v L) :
    Calls Try.prog 22 #[v, .int .i64 m] w fun e w' => ∃ b : Bool, e = .returned (.bool b) ∧ w' = w ∧ (b = true → L.length ≤ 200) := by
  obtain ⟨⟨a, ca, rfl, ha⟩, hma⟩ := hv
  go_enter Try.func22, Try.ntmps22
  by_cases h200 : 200 < L.length
  · go_wp2
    go_ret
    exact ⟨_, rfl, rfl, fun h => by cases h⟩
  · go_wp2
    go_loopw [5, 6] (fun t i wr => ∃ (k : Nat) (s : Int), k ≤ L.length ∧ i = .int .i64 k ∧ t = .int .i64 s ∧ wr = w) (fun _ i _ => L.length - (intOf i).toNat)
    case atStart => exact ⟨0, 0, by omega, rfl, rfl, rfl⟩
    case round =>
      obtain ⟨k, s, hk, rfl, rfl, rfl⟩ := hrel
      by_cases hlt : k < L.length
      · obtain ⟨b, o, rfl, hc⟩ := ha (by omega)
        obtain ⟨_, _, c3⟩ := hc k hlt
        clear hc ha
        generalize (L.getD k M.z0).2.2 = x3 at *
        go_wp2
        go_roundw
        case rel => exact ⟨k + 1, _, by omega, by go_num, rfl, by trivial⟩
        case measure => simp [intOf]; omega
      · go_wp2
        go_ret
        exact ⟨_, rfl, rfl, fun _ => by omega⟩

set_option maxRecDepth 100000 in
set_option maxHeartbeats 400000 in
theorem heavy_any (vl vb : Value) (L : List M.V3) (l : List Nat) (w : World) (hv : Vals w vl L) (hs : Sees w vb l) :
    Calls Try.prog 8 #[.agg #[vl, vb]] w fun e w' => ∃ b : Bool, e = .returned (.bool b) ∧ Below w.heap.size w w' ∧ (b = false → L.length ≤ 200 ∧ l.length ≤ 3000) := by
  have HV := Hid.mk' (hv.below ((Below.refl _ _).alloc (Nat.le_refl _) (.cells #[vl, vb] 26)))
  obtain ⟨⟨a, ca, rfl, ha⟩, hma⟩ := hv
  obtain ⟨⟨b, cb, rfl, hb⟩, hmb⟩ := hs
  clear ha hb
  go_enter Try.func8, Try.ntmps8
  go_wp2_with fail
  refine (light_any _ L _ _ HV.out).mono ?_
  rintro e w1 ⟨c, rfl, rfl, hc⟩
  cases c with
  | false =>
    go_wp2
    go_ret
    exact ⟨_, rfl, (Below.refl _ _).alloc (Nat.le_refl _) _, fun h => by cases h⟩
  | true =>
    have h2 := hc rfl
    by_cases h3 : 3000 < l.length
    · go_wp2
      go_ret
      exact ⟨true, by simp; omega, (Below.refl _ _).alloc (Nat.le_refl _) _, fun h => by cases h⟩
    · go_wp2
      go_ret
      exact ⟨false, by simp; omega, (Below.refl _ _).alloc (Nat.le_refl _) _, fun _ => ⟨h2, by omega⟩⟩

/-- The values and the bytes of wakes. -/
def L3 : List M.V3 := [(0, 0, ⟨#[]⟩), (1, 1, ⟨#[]⟩), (2, 0, ⟨#[97]⟩)]
theorem L3_rec : M.record L3 = [3, 0, 6, 15, 97] := by
  have h : M.heads L3 = M.bytes 0 ++ (M.bytes 6 ++ (M.bytes 15 ++ [])) := rfl
  have hb : M.bodies L3 = [97] := rfl
  unfold M.record
  rw [h, hb, show L3.length = 3 from rfl, M.bytes_small 0 (by decide), M.bytes_small 6 (by decide), M.bytes_small 15 (by decide), M.bytes_small 3 (by decide)]
  rfl
theorem L3_enc : M.enc L3 = 0 := by
  have h : M.allOk L3 = true := by decide +kernel
  unfold M.enc
  rw [if_neg (by rw [h]; simp), if_neg (by decide), if_neg (by rw [L3_rec]; decide)]
theorem L3_encB : M.encB L3 = [3, 0, 6, 15, 97] := by rw [(M.enc_ok L3_enc).2.2.2, L3_rec]

theorem vals_L3 (w : World) : Vals (w.alloc (.cells #[.int .i64 0, .int .i64 0, .string ⟨#[]⟩, .int .i64 1, .int .i64 1, .string ⟨#[]⟩, .int .i64 2, .int .i64 0, .string ⟨#[97]⟩] 47)) (.slice (some ⟨w.heap.size, 0, none⟩) 3 3) L3 := by
  refine ⟨⟨_, 3, rfl, fun _ => ⟨w.heap.size, 0, rfl, fun j hj => ?_⟩⟩, by decide⟩
  match j, hj with
  | 0, _ => exact ⟨by simp [L3], by simp [L3], by simp [L3]⟩
  | 1, _ => exact ⟨by simp [L3], by simp [L3], by simp [L3]⟩
  | 2, _ => exact ⟨by simp [L3], by simp [L3], by simp [L3]⟩

set_option maxRecDepth 100000 in
set_option maxHeartbeats 400000 in
theorem wakes_any (w : World) : Calls Try.prog 19 #[] w fun e w' => e = .returned (.bool true) ∧ Below w.heap.size w w' := by
  have HE := Encode_any _ L3 _ (vals_L3 w) (by decide +kernel)
  rw [L3_encB, L3_enc] at HE
  have HE' := Hid.mk' HE
  clear HE
  go_enter Try.func19, Try.ntmps19
  go_wp2_with fail
  refine HE'.out.mono ?_
  rintro e w1 ⟨v1, rfl, ho1, hb1⟩
  have q1 : Below w.heap.size w w1 := ((Below.refl _ _).alloc (Nat.le_refl _) _).trans (hb1.mono (by simp))
  have s1 := owns_sees' ho1 (by decide)
  have s2 : Sees (w1.alloc (.cells #[.int .u8 3, .int .u8 0, .int .u8 6, .int .u8 15, .int .u8 97] 5)) (.slice (some ⟨w1.heap.size, 0, none⟩) 5 5) [3, 0, 6, 15, 97] := by
    refine ⟨⟨_, 5, rfl, fun _ => ⟨w1.heap.size, 0, rfl, fun j hj => ?_⟩⟩, by decide⟩
    match j, hj with
    | 0, _ => simp
    | 1, _ => simp
    | 2, _ => simp
    | 3, _ => simp
    | 4, _ => simp
  have s3 := s1.below ((Below.refl _ _).alloc (Nat.le_refl _) (.cells #[.int .u8 3, .int .u8 0, .int .u8 6, .int .u8 15, .int .u8 97] 5))
  clear ho1 hb1 s1
  go_wp2_with (first
    | (go_at_call 12; refine (num_any _ _).mono ?_; rintro e w2 ⟨rfl, rfl⟩)
    | (go_at_call 13; refine (eq_any _ _ _ _ _ s3 s2).mono ?_; rintro e w3 ⟨rfl, nq3, rfl⟩; rw [decide_eq_true rfl]))
  go_ret
  exact ⟨rfl, below_drewN (q1.alloc q1.size _) _⟩

set_option maxRecDepth 100000 in
set_option maxHeartbeats 400000 in
theorem spoilV_any (v : Value) (n base : Nat) (xs : List Value) (w : World) (ho : w.ownsRow base 47 3 v n xs) (hn : n ≤ 1000) (hbase : base ≤ w.heap.size) :
    Calls Try.prog 18 #[v] w fun e w' => e = .returned (.tuple #[]) ∧ Below base w w' := by
  obtain ⟨a, cap, rfl, hnc, _⟩ := owned_rows (P := Try.prog) ho
  go_enter Try.func18, Try.ntmps18
  go_wp2
  go_loopw [2] (fun i wr => ∃ (k : Nat) (xs : List Value), k ≤ n ∧ i = .int .i64 k ∧ wr.ownsRow base 47 3 (.slice a n cap) n xs ∧ Below base w wr) (fun i _ => n - (intOf i).toNat)
  case atStart => exact ⟨0, _, by omega, rfl, ho, Below.refl _ _⟩
  case round =>
    clear ho
    obtain ⟨k, xs, hk, rfl, hown, hb⟩ := hrel
    have hsz := hb.size
    by_cases hlt : k < n
    · obtain ⟨g, rfl, hg⟩ : ∃ g, a = some ⟨g, 0, none⟩ ∧ base ≤ g := by
        rcases hown.2 with ⟨_, h0⟩ | ⟨g, c, cur, hv, hg, _⟩
        · omega
        · exact ⟨g, by simp at hv; exact hv.1, hg⟩
      have hl := hown.1
      have c0 : wr.cell? ⟨g, k * 3, none⟩ = some (xs[k * 3]'(by omega)) := by rw [hown.cellAt (k * 3) (by omega)]; exact List.getElem?_eq_getElem (by omega)
      have c1 : wr.cell? ⟨g, k * 3 + 1, none⟩ = some (xs[k * 3 + 1]'(by omega)) := by rw [hown.cellAt (k * 3 + 1) (by omega)]; exact List.getElem?_eq_getElem (by omega)
      have c2 : wr.cell? ⟨g, k * 3 + 2, none⟩ = some (xs[k * 3 + 2]'(by omega)) := by rw [hown.cellAt (k * 3 + 2) (by omega)]; exact List.getElem?_eq_getElem (by omega)
      have z0 := hown.frozenAt (k * 3)
      have z1 := hown.frozenAt (k * 3 + 1)
      have z2 := hown.frozenAt (k * 3 + 2)
      have HO := Hid.mk' hown
      generalize xs[k * 3]'(by omega) = y0 at *
      generalize xs[k * 3 + 1]'(by omega) = y1 at *
      generalize xs[k * 3 + 2]'(by omega) = y2 at *
      clear hown hl
      go_wp2
      go_roundw
      case rel =>
        exact ⟨k + 1, _, by omega, by go_num, ((((HO.out.stored (k * 3) _).1).stored (k * 3 + 1) _).1.stored (k * 3 + 2) _).1, ((hb.setCell (p := ⟨g, k * 3, none⟩) hg _).setCell (p := ⟨g, k * 3 + 1, none⟩) hg _).setCell (p := ⟨g, k * 3 + 2, none⟩) hg _⟩
      case measure => simp [intOf]; omega
    · have HA := Hid.mk' (append_val (wr.alloc (.cells (VC (0, 0, ⟨#[]⟩)) 47)) base _ _ _ _ 1 _ (hown.alloc _) (src_val wr (0, 0, ⟨#[]⟩)) (by omega) (by simp; omega))
      have hbk := hown.lt
      clear hown
      go_wp2_with (at_builtin; refine wpList_append_run rfl _ _ 23 23 rfl _ _ rfl rfl HA.out ?_; rintro v5 w5 ⟨ho5, hg5, hl5⟩)
      go_end0
      exact ⟨rfl, (hb.alloc (by omega) _).grown hg5 (by simp; omega) (fun q hq => (hbk q hq).1)⟩
end Go.Proofs.Ytdoahehiocmonaa
