/-
  The contracts of the reference's All and CmpKeys, of keys.order.
-/
import Derived.Test.YtkgmkiccjdgofaaVl
namespace Go.Proofs.Ytkgmkiccjdgofaa
open Go.RowKit

theorem ret_i {a b : Int} (h : a = b) : Ending.returned (.int .i64 a) = .returned (.int .i64 b) := by rw [h]
theorem ret_b {a b : Bool} (h : a = b) : Ending.returned (.bool a) = .returned (.bool b) := by rw [h]

theorem ans_cv {x y : M.V3} (hx : M.Ok x.1 x.2.1 x.2.2) (hy : M.Ok y.1 y.2.1 y.2.2) : ans x.1 x.2.1 x.2.2 y.1 y.2.1 y.2.2 = M.cv x y := by unfold ans; rw [if_pos ⟨hx, hy⟩]; rfl
theorem rcmp_cv {x y : M.V3} (hx : M.Ok x.1 x.2.1 x.2.2) (hy : M.Ok y.1 y.2.1 y.2.2) : M.rcmpV x.1 x.2.1 x.2.2 y.1 y.2.1 y.2.2 = M.cv x y := M.rcmp_eq hx hy

set_option maxRecDepth 100000 in
set_option maxHeartbeats 400000 in
theorem all_any (v : Value) (L : List M.V3) (w : World) (hv : Vals w v L) :
    Calls Try.prog 15 #[v] w fun e w' => e = .returned (.bool (M.allOk L)) ∧ Below w.heap.size w w' := by
  obtain ⟨⟨a, ca, rfl, hla, ha⟩, hma⟩ := hv
  go_enter Try.func15, Try.ntmps15
  go_wp2
  go_loopw [3] (fun i wr => ∃ k : Nat, k ≤ L.length ∧ i = .int .i64 k ∧ Below w.heap.size w wr ∧ ∀ j, j < k → M.Ok (L.getD j M.z0).1 (L.getD j M.z0).2.1 (L.getD j M.z0).2.2) (fun i _ => L.length - (intOf i).toNat)
  case atStart => exact ⟨0, by omega, rfl, Below.refl _ _, fun j h => by omega⟩
  case round =>
    obtain ⟨k, hk, rfl, hb, hok⟩ := hrel
    have HK := Hid.mk' hok
    clear hok
    by_cases hlt : k < L.length
    · obtain ⟨b, o, rfl, hc⟩ := ha (by omega)
      obtain ⟨c1, c2, c3⟩ := hc k hlt
      have hmem := M.getD_mem L k hlt
      obtain ⟨⟨x1, x2, x3⟩, hx⟩ : ∃ x, L.getD k M.z0 = x := ⟨_, rfl⟩
      have HX := Hid.mk' hx
      rw [hx] at c1 c2 c3 hmem
      have d1 := cell_on hb c1
      have d2 := cell_on hb c2
      have d3 := cell_on hb c3
      have HM := Hid.mk' hmem
      clear hc ha c1 c2 c3 hx hmem
      simp only at d1 d2 d3
      by_cases hok : M.Ok x1 x2 x3
      · have HO := Hid.mk' hok
        have dd : decide (M.Ok x1 x2 x3) = true := decide_eq_true hok
        clear hok
        go_wp2_with (go_at_call 27; refine (may _ _ _ _).mono ?_; rintro e w' ⟨rfl, rfl⟩; rw [dd])
        go_roundw
        case rel =>
          refine ⟨k + 1, by omega, by go_num, hb.alloc hb.size _, fun j hj => ?_⟩
          by_cases he : j = k
          · subst he
            rw [HX.out]; exact HO.out
          · exact HK.out j (by omega)
        case measure => simp [intOf]; omega
      · have he : M.allOk L = false := by
          unfold M.allOk
          rw [List.all_eq_false]
          exact ⟨_, HM.out, by simpa using hok⟩
        have dd : decide (M.Ok x1 x2 x3) = false := decide_eq_false hok
        have HE := Hid.mk' he
        clear hok he
        go_wp2_with (go_at_call 27; refine (may _ _ _ _).mono ?_; rintro e w' ⟨rfl, rfl⟩; rw [dd])
        go_ret
        rw [HE.out]
        exact ⟨rfl, hb.alloc hb.size _⟩
    · have hao : M.allOk L = true := List.all_eq_true.2 fun x hx => by
        obtain ⟨j, hj, rfl⟩ := List.getElem_of_mem hx
        have := HK.out j (by omega)
        rw [show L.getD j M.z0 = L[j] by simp [List.getD_eq_getElem?_getD, hj]] at this
        exact decide_eq_true this
      have HE := Hid.mk' hao
      clear hao
      go_wp2
      go_ret
      rw [HE.out]
      exact ⟨rfl, hb⟩

set_option maxRecDepth 100000 in
set_option maxHeartbeats 400000 in
theorem order_any (va vb : Value) (A B : List M.V3) (w : World) (hA : Vals w va A) (hB : Vals w vb B) (oa : M.allOk A = true) (ob : M.allOk B = true) :
    Calls Try.prog 26 #[va, vb] w fun e w' => e = .returned (.int .i64 (M.cmpK A B)) ∧ Below w.heap.size w w' := by
  obtain ⟨⟨a, ca, rfl, hla, ha⟩, hma⟩ := hA
  obtain ⟨⟨b, cb, rfl, hlb, hb⟩, hmb⟩ := hB
  go_enter Try.func26, Try.ntmps26
  go_wp2
  all_goals
    go_loopw [13] (fun i wr => ∃ k : Nat, k ≤ A.length ∧ k ≤ B.length ∧ i = .int .i64 k ∧ Below w.heap.size w wr ∧ M.cmpK A B = M.cmpK (A.drop k) (B.drop k)) (fun i _ => A.length - (intOf i).toNat)
    case atStart => exact ⟨0, by omega, by omega, rfl, Below.refl _ _, rfl⟩
    case round =>
      obtain ⟨k, hka, hkb, rfl, hbel, hK⟩ := hrel
      by_cases hlt : k < A.length ∧ k < B.length
      · obtain ⟨h1, h2⟩ := hlt
        obtain ⟨b1, o1, rfl, hc1⟩ := ha (by omega)
        obtain ⟨b2, o2, rfl, hc2⟩ := hb (by omega)
        obtain ⟨p1, p2, p3⟩ := hc1 k h1
        obtain ⟨q1, q2, q3⟩ := hc2 k h2
        have HN := Hid.mk' (M.cmpK_next h1 h2 hK)
        have ox := M.allOk_true oa _ (M.getD_mem A k h1)
        have oy := M.allOk_true ob _ (M.getD_mem B k h2)
        obtain ⟨⟨x1, x2, x3⟩, hx⟩ : ∃ x, A.getD k M.z0 = x := ⟨_, rfl⟩
        obtain ⟨⟨y1, y2, y3⟩, hy⟩ : ∃ x, B.getD k M.z0 = x := ⟨_, rfl⟩
        rw [hx] at p1 p2 p3 ox
        rw [hy] at q1 q2 q3 oy
        rw [hx, hy] at HN
        have hS : Hid ((fun w' => w'.cell? ⟨b1, o1 + k * 3, none⟩ = some (.int .i64 x1) ∧ w'.cell? ⟨b1, o1 + k * 3 + 1, none⟩ = some (.int .i64 x2) ∧ w'.cell? ⟨b1, o1 + k * 3 + 2, none⟩ = some (.string x3) ∧ w'.cell? ⟨b2, o2 + k * 3, none⟩ = some (.int .i64 y1) ∧ w'.cell? ⟨b2, o2 + k * 3 + 1, none⟩ = some (.int .i64 y2) ∧ w'.cell? ⟨b2, o2 + k * 3 + 2, none⟩ = some (.string y3)) wr) := ⟨cell_on hbel p1, cell_on hbel p2, cell_on hbel p3, cell_on hbel q1, cell_on hbel q2, cell_on hbel q3⟩
        have EV := ans_cv (x := (x1, x2, x3)) (y := (y1, y2, y3)) ox oy
        simp only at EV
        clear hc1 hc2 ha hb p1 p2 p3 q1 q2 q3 hx hy ox oy hK
        obtain ⟨c1, c2, c3, c4, c5, c6⟩ := hS.out
        obtain ⟨c, hcv⟩ : ∃ c, M.cv (x1, x2, x3) (y1, y2, y3) = c := ⟨_, rfl⟩
        rw [hcv] at EV HN
        go_wp2_with fail
        go_region_held3 (fun w' => w'.cell? ⟨b1, o1 + k * 3, none⟩ = some (.int .i64 x1) ∧ w'.cell? ⟨b1, o1 + k * 3 + 1, none⟩ = some (.int .i64 x2) ∧ w'.cell? ⟨b1, o1 + k * 3 + 2, none⟩ = some (.string x3) ∧ w'.cell? ⟨b2, o2 + k * 3, none⟩ = some (.int .i64 y1) ∧ w'.cell? ⟨b2, o2 + k * 3 + 1, none⟩ = some (.int .i64 y2) ∧ w'.cell? ⟨b2, o2 + k * 3 + 2, none⟩ = some (.string y3)) (first | exact hS1.out | assumption | go_keep)
          (first
            | (go_at_call 33; refine (cmp_any _ _ _ _ _ _ _).mono ?_; rintro e w1 ⟨rfl, hb1⟩; rw [EV]; have hb0 := Below.refl wr.heap.size wr; have hS1 : Hid ((fun w' => w'.cell? ⟨b1, o1 + k * 3, none⟩ = some (.int .i64 x1) ∧ w'.cell? ⟨b1, o1 + k * 3 + 1, none⟩ = some (.int .i64 x2) ∧ w'.cell? ⟨b1, o1 + k * 3 + 2, none⟩ = some (.string x3) ∧ w'.cell? ⟨b2, o2 + k * 3, none⟩ = some (.int .i64 y1) ∧ w'.cell? ⟨b2, o2 + k * 3 + 1, none⟩ = some (.int .i64 y2) ∧ w'.cell? ⟨b2, o2 + k * 3 + 2, none⟩ = some (.string y3)) w1) := ⟨cell_on hb1 (cell_on hb0.drew c1), cell_on hb1 (cell_on hb0.drew c2), cell_on hb1 (cell_on hb0.drew c3), cell_on hb1 (cell_on hb0.drew c4), cell_on hb1 (cell_on hb0.drew c5), cell_on hb1 (cell_on hb0.drew c6)⟩; have Q1 : Below w.heap.size w w1 := (hbel.drew).trans (hb1.mono hbel.size); clear hb1 hb0))
        clear c1 c2 c3 c4 c5 c6 hcv EV hbel
        by_cases hc : c = 0
        · have t1 : (c != 0) = false := by simp [hc]
          have HQ := Hid.mk' (HN.out.1 hc)
          clear hc HN
          go_wp2
          go_roundw
          case rel => exact ⟨k + 1, by omega, by omega, by go_num, Q1, HQ.out⟩
          case measure => simp [intOf]; omega
        · have t1 : (c != 0) = true := by simp [hc]
          have HQ := Hid.mk' (HN.out.2 hc)
          clear hc HN
          go_wp2
          go_ret
          exact ⟨ret_i HQ.out.symm, Q1⟩
      · have HQ := Hid.mk' (M.cmpK_end hka hkb hlt hK)
        clear hK
        go_wp2_with fail
        refine (cmp_int _ _ _).mono ?_
        rintro e w1 ⟨rfl, rfl⟩
        go_wp2
        go_ret
        exact ⟨ret_i HQ.out.symm, hbel⟩

set_option maxRecDepth 100000 in
set_option maxHeartbeats 400000 in
theorem rcmpk_any (va vb : Value) (A B : List M.V3) (w : World) (hA : Vals w va A) (hB : Vals w vb B) (oa : M.allOk A = true) (ob : M.allOk B = true) :
    Calls Try.prog 10 #[va, vb] w fun e w' => e = .returned (.int .i64 (M.cmpK A B)) ∧ Below w.heap.size w w' := by
  obtain ⟨⟨a, ca, rfl, hla, ha⟩, hma⟩ := hA
  obtain ⟨⟨b, cb, rfl, hlb, hb⟩, hmb⟩ := hB
  go_enter Try.func10, Try.ntmps10
  go_wp2
  go_loopw [5] (fun i wr => ∃ k : Nat, k ≤ A.length ∧ k ≤ B.length ∧ i = .int .i64 k ∧ Below w.heap.size w wr ∧ M.cmpK A B = M.cmpK (A.drop k) (B.drop k)) (fun i _ => A.length - (intOf i).toNat)
  case atStart => exact ⟨0, by omega, by omega, rfl, Below.refl _ _, rfl⟩
  case round =>
    obtain ⟨k, hka, hkb, rfl, hbel, hK⟩ := hrel
    by_cases hlt : k < A.length ∧ k < B.length
    · obtain ⟨h1, h2⟩ := hlt
      obtain ⟨b1, o1, rfl, hc1⟩ := ha (by omega)
      obtain ⟨b2, o2, rfl, hc2⟩ := hb (by omega)
      obtain ⟨p1, p2, p3⟩ := hc1 k h1
      obtain ⟨q1, q2, q3⟩ := hc2 k h2
      have HN := Hid.mk' (M.cmpK_next h1 h2 hK)
      have ox := M.allOk_true oa _ (M.getD_mem A k h1)
      have oy := M.allOk_true ob _ (M.getD_mem B k h2)
      obtain ⟨⟨x1, x2, x3⟩, hx⟩ : ∃ x, A.getD k M.z0 = x := ⟨_, rfl⟩
      obtain ⟨⟨y1, y2, y3⟩, hy⟩ : ∃ x, B.getD k M.z0 = x := ⟨_, rfl⟩
      rw [hx] at p1 p2 p3 ox
      rw [hy] at q1 q2 q3 oy
      rw [hx, hy] at HN
      have hS : Hid ((fun w' => w'.cell? ⟨b1, o1 + k * 3, none⟩ = some (.int .i64 x1) ∧ w'.cell? ⟨b1, o1 + k * 3 + 1, none⟩ = some (.int .i64 x2) ∧ w'.cell? ⟨b1, o1 + k * 3 + 2, none⟩ = some (.string x3) ∧ w'.cell? ⟨b2, o2 + k * 3, none⟩ = some (.int .i64 y1) ∧ w'.cell? ⟨b2, o2 + k * 3 + 1, none⟩ = some (.int .i64 y2) ∧ w'.cell? ⟨b2, o2 + k * 3 + 2, none⟩ = some (.string y3)) wr) := ⟨cell_on hbel p1, cell_on hbel p2, cell_on hbel p3, cell_on hbel q1, cell_on hbel q2, cell_on hbel q3⟩
      have EV := rcmp_cv (x := (x1, x2, x3)) (y := (y1, y2, y3)) ox oy
      simp only at EV
      clear hc1 hc2 ha hb p1 p2 p3 q1 q2 q3 hx hy ox oy hK
      obtain ⟨c1, c2, c3, c4, c5, c6⟩ := hS.out
      obtain ⟨c, hcv⟩ : ∃ c, M.cv (x1, x2, x3) (y1, y2, y3) = c := ⟨_, rfl⟩
      rw [hcv] at EV HN
      go_wp2_with fail
      go_region_held3 (fun w' => w'.cell? ⟨b1, o1 + k * 3, none⟩ = some (.int .i64 x1) ∧ w'.cell? ⟨b1, o1 + k * 3 + 1, none⟩ = some (.int .i64 x2) ∧ w'.cell? ⟨b1, o1 + k * 3 + 2, none⟩ = some (.string x3) ∧ w'.cell? ⟨b2, o2 + k * 3, none⟩ = some (.int .i64 y1) ∧ w'.cell? ⟨b2, o2 + k * 3 + 1, none⟩ = some (.int .i64 y2) ∧ w'.cell? ⟨b2, o2 + k * 3 + 2, none⟩ = some (.string y3)) (first | exact hS1.out | assumption | go_keep)
        (first
          | (go_at_call 24; refine (rcmp_any _ _ _ _ _ _ _).mono ?_; rintro e w1 ⟨rfl, hb1⟩; rw [EV]; have hb0 := Below.refl wr.heap.size wr; have hS1 : Hid ((fun w' => w'.cell? ⟨b1, o1 + k * 3, none⟩ = some (.int .i64 x1) ∧ w'.cell? ⟨b1, o1 + k * 3 + 1, none⟩ = some (.int .i64 x2) ∧ w'.cell? ⟨b1, o1 + k * 3 + 2, none⟩ = some (.string x3) ∧ w'.cell? ⟨b2, o2 + k * 3, none⟩ = some (.int .i64 y1) ∧ w'.cell? ⟨b2, o2 + k * 3 + 1, none⟩ = some (.int .i64 y2) ∧ w'.cell? ⟨b2, o2 + k * 3 + 2, none⟩ = some (.string y3)) w1) := ⟨cell_on hb1 (cell_on hb0.drew c1), cell_on hb1 (cell_on hb0.drew c2), cell_on hb1 (cell_on hb0.drew c3), cell_on hb1 (cell_on hb0.drew c4), cell_on hb1 (cell_on hb0.drew c5), cell_on hb1 (cell_on hb0.drew c6)⟩; have Q1 : Below w.heap.size w w1 := (hbel.drew).trans (hb1.mono hbel.size); clear hb1 hb0))
      clear c1 c2 c3 c4 c5 c6 hcv EV hbel
      by_cases hc : c = 0
      · have t1 : (c != 0) = false := by simp [hc]
        have HQ := Hid.mk' (HN.out.1 hc)
        clear hc HN
        go_wp2
        go_roundw
        case rel => exact ⟨k + 1, by omega, by omega, by go_num, Q1, HQ.out⟩
        case measure => simp [intOf]; omega
      · have t1 : (c != 0) = true := by simp [hc]
        have HQ := Hid.mk' (HN.out.2 hc)
        clear hc HN
        go_wp2
        go_ret
        exact ⟨ret_i HQ.out.symm, Q1⟩
    · have HQ := Hid.mk' (M.cmpK_end hka hkb hlt hK)
      clear hK
      by_cases g1 : A.length < B.length
      · have HE : Hid (M.cmpK A B = -1) := HQ.out.trans (by unfold M.cmpI; rw [if_pos (by omega)])
        clear HQ
        go_wp2
        all_goals
          go_ret
          exact ⟨ret_i HE.out.symm, hbel⟩
      · by_cases g2 : B.length < A.length
        · have HE : Hid (M.cmpK A B = 1) := HQ.out.trans (by unfold M.cmpI; rw [if_neg (by omega), if_pos (by omega)])
          clear HQ
          go_wp2
          all_goals
            go_ret
            exact ⟨ret_i HE.out.symm, hbel⟩
        · have HE : Hid (M.cmpK A B = 0) := HQ.out.trans (by unfold M.cmpI; rw [if_neg (by omega), if_neg (by omega)])
          clear HQ
          go_wp2
          all_goals
            go_ret
            exact ⟨ret_i HE.out.symm, hbel⟩

end Go.Proofs.Ytkgmkiccjdgofaa
