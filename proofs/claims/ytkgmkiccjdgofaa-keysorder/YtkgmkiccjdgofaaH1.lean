/-
  The contracts of the laws' helpers: num, CopyValues, EqValues, Light, LightLists, heavy, both, wakes.
-/
import Derived.Test.YtkgmkiccjdgofaaK4
namespace Go.Proofs.Ytkgmkiccjdgofaa
open Go.RowKit

set_option maxRecDepth 100000 in
set_option maxHeartbeats 400000 in
theorem num_any (e : Int) (w : World) : Calls Try.prog 14 #[.int .i64 e] w fun x w' => x = .returned (.int .i64 e) ∧ w' = w := by
  go_enter Try.func14, Try.ntmps14
  go_wp2
  go_ret
  exact ⟨rfl, rfl⟩

set_option maxRecDepth 100000 in
set_option maxHeartbeats 400000 in
theorem copyV_any (v : Value) (L : List M.V3) (w : World) (hv : Vals w v L) (h200 : L.length ≤ 200) :
    Calls Try.prog 21 #[v] w fun e w' => ∃ v', e = .returned v' ∧ w'.ownsRow w.heap.size 43 3 v' L.length (VCs L) ∧ Below w.heap.size w w' := by
  obtain ⟨⟨a, ca, rfl, hla, ha⟩, hma⟩ := hv
  go_enter Try.func21, Try.ntmps21
  go_wp2
  go_loopw [3, 4] (fun t i wr => ∃ k : Nat, k ≤ L.length ∧ i = .int .i64 k ∧ Below w.heap.size w wr ∧ wr.ownsRow w.heap.size 43 3 t k (VCs (L.take k))) (fun _ i _ => L.length - (intOf i).toNat)
  case atStart => exact ⟨0, by omega, rfl, Below.refl _ _, World.ownsRow_nil _ _ _ _⟩
  case round =>
    obtain ⟨k, hk, rfl, hb, ho⟩ := hrel
    have hsz := hb.size
    have hbk := ho.lt
    by_cases hlt : k < L.length
    · obtain ⟨b, o, rfl, hc⟩ := ha (by omega)
      obtain ⟨c1, c2, c3⟩ := hc k hlt
      have HT := Hid.mk' (M.take_getD L k hlt)
      obtain ⟨⟨x1, x2, x3⟩, hx⟩ : ∃ x, L.getD k M.z0 = x := ⟨_, rfl⟩
      have HX := Hid.mk' hx
      rw [hx] at c1 c2 c3
      have d1 := cell_on hb c1
      have d2 := cell_on hb c2
      have d3 := cell_on hb c3
      have HA := Hid.mk' (append_val _ w.heap.size _ _ _ _ 1 _ (ho.alloc _) (src_val wr (x1, x2, x3)) (by omega) (by simp; omega))
      clear hc ha c1 c2 c3 hx ho
      simp only at d1 d2 d3
      go_wp2_with (at_builtin; refine wpList_append_run rfl _ _ 23 23 rfl _ _ rfl rfl HA.out ?_; rintro v5 w5 ⟨ho5, hg5, hl5⟩)
      go_roundw
      case rel =>
        refine ⟨k + 1, by omega, by go_num, (hb.alloc hsz _).grown hg5 (by simp; omega) (fun q hq => (hbk q hq).1), ?_⟩
        rw [HT.out, HX.out, VCs_snoc]
        exact ho5
      case measure => simp [intOf]; omega
    · have e : k = L.length := by omega
      have ho' := ho
      rw [e, List.take_length] at ho'
      have HO := Hid.mk' ho'
      clear ho ho' e
      go_wp2
      go_ret
      exact ⟨_, rfl, HO.out, hb⟩

set_option maxRecDepth 100000 in
set_option maxHeartbeats 400000 in
theorem light_any (v : Value) (L : List M.V3) (m : Int) (w : World) (hv : Vals w v L) :
    Calls Try.prog 22 #[v, .int .i64 m] w fun e w' => ∃ b : Bool, e = .returned (.bool b) ∧ w' = w := by
  obtain ⟨⟨a, ca, rfl, hla, ha⟩, hma⟩ := hv
  go_enter Try.func22, Try.ntmps22
  by_cases h200 : 200 < L.length
  · go_wp2
    go_ret
    exact ⟨_, rfl, rfl⟩
  · go_wp2
    go_loopw [5, 6] (fun t i wr => ∃ (k : Nat) (s : Int), k ≤ L.length ∧ i = .int .i64 k ∧ t = .int .i64 s ∧ wr = w) (fun _ i _ => L.length - (intOf i).toNat)
    case atStart => exact ⟨0, 0, by omega, rfl, rfl, rfl⟩
    case round =>
      obtain ⟨k, s, hk, rfl, rfl, rfl⟩ := hrel
      by_cases hlt : k < L.length
      · obtain ⟨b, o, rfl, hc⟩ := ha (by omega)
        obtain ⟨_, _, c3⟩ := hc k hlt
        clear hc ha
        generalize (L.getD k M.z0).2.2 = x3 at *
        go_wp2
        go_roundw
        case rel => exact ⟨k + 1, _, by omega, by go_num, rfl, by trivial⟩
        case measure => simp [intOf]; omega
      · go_wp2
        go_ret
        exact ⟨_, rfl, rfl⟩

set_option maxRecDepth 100000 in
set_option maxHeartbeats 400000 in
theorem lightL_any (v : Value) (LL : List (List M.V3)) (mx : Int) (w : World) (hv : Lists w v LL) :
    Calls Try.prog 23 #[v, .int .i64 mx] w fun e w' => ∃ b : Bool, e = .returned (.bool b) ∧ w' = w := by
  obtain ⟨⟨a, ca, rfl, ha⟩, hma⟩ := hv
  go_enter Try.func23, Try.ntmps23
  by_cases h200 : 200 < LL.length
  · go_wp2
    go_ret
    exact ⟨_, rfl, rfl⟩
  · go_wp2
    go_loopw [5, 6] (fun t i wr => ∃ (k : Nat) (s : Int), k ≤ LL.length ∧ i = .int .i64 k ∧ t = .int .i64 s ∧ wr = w) (fun _ i _ => LL.length - (intOf i).toNat)
    case atStart => exact ⟨0, 0, by omega, rfl, rfl, rfl⟩
    case round =>
      obtain ⟨k, s, hk, rfl, rfl, hw⟩ := hrel
      obtain rfl := hw.symm
      clear hw
      by_cases hlt : k < LL.length
      · obtain ⟨b, o, rfl, hc⟩ := ha (by omega)
        obtain ⟨u, c1, ⟨⟨ua, uc, rfl, _, hu⟩, hmu⟩⟩ := hc k hlt
        obtain ⟨L, hL⟩ : ∃ x, LL.getD k [] = x := ⟨_, rfl⟩
        rw [hL] at c1 hmu hu
        clear hc ha hL
        by_cases h100 : 100 < L.length
        · go_wp2
          go_ret
          exact ⟨_, rfl, rfl⟩
        · have hd : decide ((k : Int) < (LL.length : Int)) = true := by simp; omega
          have hd2 : decide ((100 : Int) < (L.length : Int)) = false := by simp; omega
          go_wp2
          try simp only [hd, hd2]
          go_loopw [5, 7] (fun t i wr => ∃ (m : Nat) (s : Int), m ≤ L.length ∧ i = .int .i64 m ∧ t = .int .i64 s ∧ wr = w) (fun _ i _ => L.length - (intOf i).toNat)
          case atStart => exact ⟨0, s, by omega, rfl, rfl, rfl⟩
          case round =>
            obtain ⟨m, s2, hm, rfl, rfl, hw⟩ := hrel
            obtain rfl := hw.symm
            clear hw
            by_cases hlt2 : m < L.length
            · obtain ⟨b2, o2, rfl, hc2⟩ := hu (by omega)
              obtain ⟨_, _, c3⟩ := hc2 m hlt2
              clear hc2 hu
              generalize (L.getD m M.z0).2.2 = x3 at *
              go_wp2
              go_roundw
              case rel => exact ⟨m + 1, _, by omega, by go_num, rfl, by trivial⟩
              case measure => simp [intOf]; omega
            · clear hu
              go_wp2
              go_roundw
              case rel => exact ⟨k + 1, _, by omega, by go_num, rfl, by trivial⟩
              case measure => simp [intOf]; omega
      · go_wp2
        go_ret
        exact ⟨_, rfl, rfl⟩

set_option maxRecDepth 100000 in
set_option maxHeartbeats 400000 in
theorem heavy_any (va vb vl : Value) (A B : List M.V3) (LL : List (List M.V3)) (w : World) (hA : Vals w va A) (hB : Vals w vb B) (hL : Lists w vl LL) :
    Calls Try.prog 8 #[.agg #[va, vb, vl]] w fun e w' => ∃ b : Bool, e = .returned (.bool b) ∧ Below w.heap.size w w' := by
  have hq : Below w.heap.size w (w.alloc (.cells #[va, vb, vl] 26)) := (Below.refl _ _).alloc (Nat.le_refl _) _
  have HA := Hid.mk' (hA.below hq)
  have HB := Hid.mk' (hB.below hq)
  have HL := Hid.mk' (hL.below hq)
  have HQ := Hid.mk' hq
  clear hq
  obtain ⟨⟨a, ca, rfl, _, ha⟩, hma⟩ := hA
  obtain ⟨⟨b, cb, rfl, _, hb⟩, hmb⟩ := hB
  obtain ⟨⟨c, cc, rfl, hc⟩, hmc⟩ := hL
  clear ha hb hc
  go_enter Try.func8, Try.ntmps8
  go_wp2_with fail
  refine (light_any _ A _ _ HA.out).mono ?_
  rintro e w1 ⟨r, rfl, rfl⟩
  cases r with
  | false =>
    go_wp2
    go_ret
    exact ⟨_, rfl, HQ.out⟩
  | true =>
    go_wp2_with fail
    refine (light_any _ B _ _ HB.out).mono ?_
    rintro e w1 ⟨r, rfl, rfl⟩
    cases r with
    | false =>
      go_wp2
      go_ret
      exact ⟨_, rfl, HQ.out⟩
    | true =>
      go_wp2_with fail
      refine (lightL_any _ LL _ _ HL.out).mono ?_
      rintro e w1 ⟨r, rfl, rfl⟩
      go_wp2
      go_ret
      exact ⟨_, rfl, HQ.out⟩

set_option maxRecDepth 100000 in
set_option maxHeartbeats 400000 in
theorem both_any (va vb : Value) (A B : List M.V3) (w : World) (hA : Vals w va A) (hB : Vals w vb B) :
    Calls Try.prog 9 #[va, vb] w fun e w' => e = .returned (.int .i64 (M.pairE A B)) ∧ Below w.heap.size w w' := by
  have HA := Hid.mk' hA
  have HB := Hid.mk' hB
  obtain ⟨⟨a, ca, rfl, hla, ha⟩, hma⟩ := hA
  obtain ⟨⟨b, cb, rfl, hlb, hb⟩, hmb⟩ := hB
  clear ha hb
  go_enter Try.func9, Try.ntmps9
  go_wp2_with fail
  refine (all_any _ A _ HA.out).mono ?_
  rintro e w1 ⟨rfl, q1⟩
  cases h1 : M.allOk A with
  | false =>
    have HE := Hid.mk' (M.pairE_form (A := A) (B := B) (by rw [h1]; rfl))
    go_wp2
    go_ret
    exact ⟨ret_i HE.out.symm, q1⟩
  | true =>
    go_wp2_with fail
    refine (all_any _ B _ (HB.out.below q1)).mono ?_
    rintro e w2 ⟨rfl, hb2⟩
    have q2 : Below w.heap.size w w2 := q1.trans (hb2.mono q1.size)
    cases h2 : M.allOk B with
    | false =>
      have HE := Hid.mk' (M.pairE_form (A := A) (B := B) (by rw [h1, h2]; rfl))
      go_wp2
      go_ret
      exact ⟨ret_i HE.out.symm, q2⟩
    | true =>
      have hall : (M.allOk A && M.allOk B) = true := by rw [h1, h2]; rfl
      by_cases g1 : 17 < A.length
      · have HE := Hid.mk' (M.pairE_limit hall (by omega))
        clear hall
        go_wp2
        go_ret
        exact ⟨ret_i HE.out.symm, q2⟩
      · by_cases g2 : 17 < B.length
        · have HE := Hid.mk' (M.pairE_limit hall (by omega))
          clear hall
          go_wp2
          go_ret
          exact ⟨ret_i HE.out.symm, q2⟩
        · have HE := Hid.mk' (M.pairE_zero hall (by omega))
          clear hall
          go_wp2
          go_ret
          exact ⟨ret_i HE.out.symm, q2⟩

/-- The keys of wakes. -/
def K1 : List M.V3 := [(1, 1, ⟨#[]⟩)]
def K2 : List M.V3 := [(1, 1, ⟨#[]⟩), (0, 0, ⟨#[]⟩)]
theorem K12_E : M.pairE K1 K2 = 0 := M.pairE_ok.2 ⟨by decide +kernel, by decide +kernel, by decide, by decide⟩
theorem K12_C : M.pairC K1 K2 = -1 := by
  rw [M.pairC_ok K12_E]
  have h : M.Ok 1 1 (⟨#[]⟩ : ByteArray) := by decide +kernel
  show M.cmpK ((1, 1, ⟨#[]⟩) :: []) ((1, 1, ⟨#[]⟩) :: [(0, 0, ⟨#[]⟩)]) = -1
  rw [M.cmpK_cons h]
  rfl

theorem vals_K2 (w : World) : Vals (w.alloc (.cells #[.int .i64 1, .int .i64 1, .string ⟨#[]⟩, .int .i64 0, .int .i64 0, .string ⟨#[]⟩] 43)) (.slice (some ⟨w.heap.size, 0, none⟩) 2 2) K2 := by
  refine ⟨⟨_, 2, rfl, by decide, fun _ => ⟨w.heap.size, 0, rfl, fun j hj => ?_⟩⟩, by decide⟩
  match j, hj with
  | 0, _ => exact ⟨by simp [K2], by simp [K2], by simp [K2]⟩
  | 1, _ => exact ⟨by simp [K2], by simp [K2], by simp [K2]⟩

set_option maxRecDepth 100000 in
set_option maxHeartbeats 400000 in
theorem wakes_any (w : World) : Calls Try.prog 19 #[] w fun e w' => e = .returned (.bool true) ∧ Below w.heap.size w w' := by
  have v1 := (vals_one (w.alloc (.cells #[.int .i64 1, .int .i64 1, .string ⟨#[]⟩] 43)) (1, 1, ⟨#[]⟩)).below ((Below.refl _ _).alloc (Nat.le_refl _) (.cells #[.int .i64 1, .int .i64 1, .string ⟨#[]⟩, .int .i64 0, .int .i64 0, .string ⟨#[]⟩] 43))
  have v2 := vals_K2 ((w.alloc (.cells #[.int .i64 1, .int .i64 1, .string ⟨#[]⟩] 43)).alloc (.cells #[.int .i64 1, .int .i64 1, .string ⟨#[]⟩] 43))
  have HC0 := kcmp_any _ _ K1 K2 _ v1 v2
  simp only [size_alloc] at HC0
  have HC := Hid.mk' HC0
  clear v1 v2 HC0
  go_enter Try.func19, Try.ntmps19
  go_wp2_with fail
  refine HC.out.mono ?_
  rintro e w1 ⟨rfl, hb1⟩
  rw [K12_E, K12_C]
  have q1 : Below w.heap.size w w1 := by
    refine Below.trans ?_ (hb1.mono (by omega))
    repeat (with_reducible refine Below.alloc ?_ (by first | exact Nat.le_refl _ | (simp only [size_alloc]; omega)) _)
    exact Below.refl _ _
  clear hb1
  go_wp2_with (go_at_call 14; refine (num_any _ _).mono ?_; rintro e w2 ⟨rfl, rfl⟩)
  go_ret
  exact ⟨rfl, q1⟩

theorem list_eq_of {A B : List M.V3} (hl : A.length = B.length) (h : ∀ j, j < A.length → A.getD j M.z0 = B.getD j M.z0) : A = B := by
  refine List.ext_getElem hl fun i h1 h2 => ?_
  have := h i h1
  simpa [List.getD_eq_getElem?_getD, h1, h2] using this

set_option maxRecDepth 100000 in
set_option maxHeartbeats 400000 in
theorem eqV_any (va vb : Value) (A B : List M.V3) (w : World) (hA : Vals w va A) (hB : Vals w vb B) :
    Calls Try.prog 20 #[va, vb] w fun e w' => ∃ r : Bool, e = .returned (.bool r) ∧ (r = true ↔ A = B) ∧ ∃ nq, w' = w.drewN nq := by
  obtain ⟨⟨a, ca, rfl, hla, ha⟩, hma⟩ := hA
  obtain ⟨⟨b, cb, rfl, hlb, hb⟩, hmb⟩ := hB
  go_enter Try.func20, Try.ntmps20
  by_cases hlen : A.length = B.length
  · have t0 : ((A.length : Int) != (B.length : Int)) = false := by simp [hlen]
    have HLn := Hid.mk' hlen
    have hAB : A.length ≤ B.length := by omega
    clear hlen
    go_wp2
    go_loopw [5] (fun i wr => ∃ k nq : Nat, k ≤ A.length ∧ i = .int .i64 k ∧ wr = w.drewN nq ∧ ∀ j, j < k → A.getD j M.z0 = B.getD j M.z0) (fun i _ => A.length - (intOf i).toNat)
    case atStart => exact ⟨0, 0, by omega, rfl, rfl, fun j h => by omega⟩
    case round =>
      obtain ⟨k, nq0, hk, rfl, hw, hsame⟩ := hrel
      have HS := Hid.mk' hsame
      clear hsame
      by_cases hlt : k < A.length
      · obtain ⟨b1, o1, rfl, hc1⟩ := ha (by omega)
        obtain ⟨b2, o2, rfl, hc2⟩ := hb (by omega)
        obtain ⟨p1, p2, p3⟩ := hc1 k hlt
        obtain ⟨q1, q2, q3⟩ := hc2 k (by omega)
        have hltB : k < B.length := by omega
        obtain ⟨⟨x1, x2, x3⟩, hx⟩ : ∃ x, A.getD k M.z0 = x := ⟨_, rfl⟩
        obtain ⟨⟨y1, y2, y3⟩, hy⟩ : ∃ x, B.getD k M.z0 = x := ⟨_, rfl⟩
        have HX := Hid.mk' hx
        have HY := Hid.mk' hy
        rw [hx] at p1 p2 p3
        rw [hy] at q1 q2 q3
        have hbel : Below w.heap.size w wr := by rw [hw]; exact below_drewN (Below.refl _ _) _
        have c1 := cell_on hbel p1
        have c2 := cell_on hbel p2
        have c3 := cell_on hbel p3
        have c4 := cell_on hbel q1
        have c5 := cell_on hbel q2
        have c6 := cell_on hbel q3
        have HW := Hid.mk' hw
        clear hc1 hc2 ha hb p1 p2 p3 q1 q2 q3 hx hy hw hbel
        simp only at c1 c2 c3 c4 c5 c6
        by_cases hxy : ((x1, x2, x3) : M.V3) = (y1, y2, y3)
        · obtain ⟨rfl, hxy2⟩ := Prod.mk.inj hxy
          obtain ⟨rfl, rfl⟩ := Prod.mk.inj hxy2
          clear hxy hxy2
          go_wp2
          go_quiet (fail)
          go_wp2
          go_roundw
          case rel =>
            refine ⟨k + 1, _, by omega, by go_num, by rw [HW.out]; exact World.drewN_drewN _ _ _, fun j hj => ?_⟩
            by_cases he : j = k
            · rw [he, HX.out, HY.out]
            · exact HS.out j (by omega)
          case measure => simp [intOf]; omega
        · have HN : Hid (¬ A = B) := fun h => hxy (by rw [← HX.out, ← HY.out, h])
          have ways : ((x1 == y1) = false) ∨ ((x1 == y1) = true ∧ (x2 == y2) = false) ∨ ((x1 == y1) = true ∧ (x2 == y2) = true ∧ (x3.toList == y3.toList) = false) := by
            by_cases e1 : x1 = y1
            · by_cases e2 : x2 = y2
              · by_cases e3 : x3 = y3
                · exact (hxy (by rw [e1, e2, e3])).elim
                · exact .inr (.inr ⟨by simp [e1], by simp [e2], by rw [beq_eq_false_iff_ne]; exact fun h => e3 (M.toList_inj h)⟩)
              · exact .inr (.inl ⟨by simp [e1], by rw [beq_eq_false_iff_ne]; exact e2⟩)
            · exact .inl (by rw [beq_eq_false_iff_ne]; exact e1)
          clear hxy
          rcases ways with t1 | ⟨t1, t2⟩ | ⟨t1, t2, t3⟩
          all_goals
            go_wp2
            go_quiet (fail)
            go_wp2
            go_ret
            exact ⟨false, by first | rfl | simp_all, ⟨fun h => (by cases h), fun h => (HN.out h).elim⟩, _, by rw [HW.out]; exact World.drewN_drewN _ _ _⟩
      · have HE : Hid (A = B) := list_eq_of HLn.out fun j hj => HS.out j (by omega)
        subst hw
        go_wp2
        go_ret
        exact ⟨true, rfl, ⟨fun _ => HE.out, fun _ => rfl⟩, _, rfl⟩
  · have t0 : ((A.length : Int) != (B.length : Int)) = true := by rw [bne_iff_ne]; omega
    go_wp2
    go_ret
    exact ⟨false, rfl, ⟨fun h => (by cases h), fun h => (hlen (by rw [h])).elim⟩, 0, rfl⟩
end Go.Proofs.Ytkgmkiccjdgofaa
