/-
  The reference's EqExprs and EqExpr: where both show the same trees the answer is true.
  The reference's EqStrings, EqColumns, EqSet, EqSets, EqOrder, EqOrders, EqLines: where both show the same the answer is true.
-/
import Derived.Test.YtmepkmhfjgocgaaGreatDoorYd
import Derived.Outline
import Derived.Laws.StructEq
namespace Go.Proofs.YtmepkmhfjgocgaaGreatDoor
open Go.ChangeShapes Go.WideShapes Go.ChangeAt Go.RowKit Go.Deep

/-- True is told, nothing below is changed. -/
def TrueB (w : World) (e : Ending) (w' : World) : Prop := e = .returned (.bool true) ∧ Below w.heap.size w w'

theorem below_past {n : Nat} {w wr w2 : World} (hb : Below n w wr) (hs : n ≤ wr.heap.size) (h : Below wr.drew.heap.size wr.drew w2) : Below n w w2 :=
  (show Below n w wr.drew from below_drewN hb 1).trans (h.mono hs)
/-- An expression as an argument. -/
def eA (x : Z.Ex) (va : Value) : Value := .agg #[.int .i64 x.op, .int .i64 x.vk, .int .i64 x.vi, .string (S x.vs), .string (S x.tb), .string (S x.nm), va]

set_option maxRecDepth 100000 in
set_option maxHeartbeats 1000000 in
theorem eqExpr_step {w : World} {x : Z.Ex} {va vb : Value} (h : ∀ o1 o2 : Obj, Calls Tryz.prog 40 #[va, vb] ((w.alloc o1).alloc o2) (TrueB ((w.alloc o1).alloc o2))) : Calls Tryz.prog 95 #[eA x va, eA x vb] w (TrueB w) := by
  have HQ := Hid.mk' h
  clear h
  unfold eA
  obtain ⟨op, vk, vi, vs, tb, nm, args⟩ := x
  simp only
  go_enter Tryz.func95, Tryz.ntmps95
  go_wp2_with (first
    | (go_at_call 40; refine (HQ.out _ _).mono ?_; rintro e2 w2 ⟨rfl, hb2⟩; go_wp2)
    | fail)
  go_ret
  exact ⟨rfl, (((Below.refl w.heap.size w).alloc (Nat.le_refl _) _).alloc (by simp) _).trans (hb2.mono (by simp; omega))⟩

set_option maxRecDepth 100000 in
set_option maxHeartbeats 1000000 in
theorem eqExprs_any (N : Nat) : ∀ {w : World} {ok : Nat → Prop} {va vb : Value} {l : List Z.Ex} {ra rb : List Value}, (∀ b, ok b → b < w.heap.size) → w.ownsRow 0 56 7 va l.length ra → ShE.es w ok l ra → w.ownsRow 0 56 7 vb l.length rb → ShE.es w ok l rb → Z.nodes.all l = N →
    Calls Tryz.prog 40 #[va, vb] w (TrueB w) := by
  induction N using Nat.strongRecOn with
  | _ N ih =>
    intro w ok va vb l ra rb hok ha hsa hb hsb hl
    have IH := Hid.mk' ih
    have HA := Hid.mk' ha
    have HSA := Hid.mk' hsa
    have HB := Hid.mk' hb
    have HSB := Hid.mk' hsb
    have HK := Hid.mk' hok
    have HN := Hid.mk' hl
    obtain ⟨a, ca, rfl, _, _⟩ := owned_rows (P := Tryz.prog) ha
    obtain ⟨b, cb, rfl, _, _⟩ := owned_rows (P := Tryz.prog) hb
    have hcap : l.length ≤ 9223372036854775807 := by
      rcases ha.2 with ⟨_, h0⟩ | ⟨_, _, _, hv, _, _, hn, hm, _⟩
      · omega
      · unfold maxLen at hm
        omega
    clear ih ha hsa hb hsb hok hl
    go_enter Tryz.func40, Tryz.ntmps40
    go_wp2
    go_loopw [5] (fun i wr => ∃ k : Nat, k ≤ l.length ∧ i = .int .i64 k ∧ Below w.heap.size w wr) (fun i _ => l.length - (intOf i).toNat)
    case atStart => exact ⟨0, by omega, rfl, Below.refl _ _⟩
    case round =>
      obtain ⟨k, hk, rfl, hbw⟩ := hrel
      have hsz := hbw.size
      by_cases hlt : k < l.length
      · obtain ⟨e, he⟩ : ∃ e, l[k]? = some e := ⟨_, List.getElem?_eq_getElem hlt⟩
        obtain ⟨xa, hxa, hata⟩ := HSA.out.at he
        obtain ⟨xb, hxb, hatb⟩ := HSB.out.at he
        obtain ⟨a2, c2, row2, rfl, ho2, hs2⟩ := hxa.open
        obtain ⟨a3, c3, row3, rfl, ho3, hs3⟩ := hxb.open
        obtain ⟨ga, rfl⟩ := row_some HA.out (by omega)
        obtain ⟨gb, rfl⟩ := row_some HB.out (by omega)
        have qa : ∀ j u, (eC e.op e.vk e.vi e.vs e.tb e.nm (.slice a2 e.args.length c2))[j]? = some u → wr.cell? ⟨ga, k * 7 + j, none⟩ = some u := fun j u hj => cellB hbw (row_cell HA.out (hata j u hj))
        have qb : ∀ j u, (eC e.op e.vk e.vi e.vs e.tb e.nm (.slice a3 e.args.length c3))[j]? = some u → wr.cell? ⟨gb, k * 7 + j, none⟩ = some u := fun j u hj => cellB hbw (row_cell HB.out (hatb j u hj))
        have p0 := qa 0 _ rfl
        have p1 := qa 1 _ rfl
        have p2 := qa 2 _ rfl
        have p3 := qa 3 _ rfl
        have p4 := qa 4 _ rfl
        have p5 := qa 5 _ rfl
        have p6 := qa 6 _ rfl
        have r0 := qb 0 _ rfl
        have r1 := qb 1 _ rfl
        have r2 := qb 2 _ rfl
        have r3 := qb 3 _ rfl
        have r4 := qb 4 _ rfl
        have r5 := qb 5 _ rfl
        have r6 := qb 6 _ rfl
        have hlt2 : Z.nodes.all e.args < N := by
          have h1 := (Z.nodes.all_drop he).1
          have h2 := (Z.nodes_open e).1
          have h3 : Z.nodes.all (l.drop k) ≤ Z.nodes.all l := by
            have := Z.nodes.all_app (l.take k) (l.drop k)
            rw [List.take_append_drop] at this
            omega
          have := HN.out
          omega
        have HC := Hid.mk' (eqExpr_step (w := wr.drew) (x := e) (va := .slice a2 e.args.length c2) (vb := .slice a3 e.args.length c3) fun o1 o2 => by
          have hbx := ((show Below w.heap.size w wr.drew from below_drewN hbw 1).alloc hsz o1).alloc (by simp; omega) o2
          have hkx : ∀ b, ok b → ok b ∧ ((wr.drew.alloc o1).alloc o2).heap[b]? = w.heap[b]? := fun b hb2 => ⟨hb2, hbx.block b (HK.out b hb2)⟩
          exact IH.out _ hlt2 (ok := ok) (fun b hb2 => by have := HK.out b hb2; simp; omega) (owns_keep ho2 hbx) (ShE.es.on hkx _ _ hs2) (owns_keep ho3 hbx) (ShE.es.on hkx _ _ hs3) rfl)
        unfold eA at HC
        have HL := Hid.mk' hlt2
        clear qa qb hata hatb hxa hxb ho2 ho3 hs2 hs3 he hlt2
        simp only [Nat.add_zero] at p0 r0
        go_wp2_with fail
        go_region_with (first | (go_at_call 95; refine HC.out.mono ?_; rintro e2 w2 ⟨rfl, hb2⟩; have hb3 := Hid.mk' (below_past hbw hsz hb2); clear hb2))
        all_goals go_wp2
        all_goals
          go_roundw
          case rel => exact ⟨k + 1, by omega, by go_num, hb3.out⟩
          case measure => simp [intOf]; omega
      · obtain rfl : k = l.length := by omega
        go_wp2
        go_ret
        exact ⟨rfl, hbw⟩

theorem cap_of {w : World} {T : TypeId} {sz n : Nat} {v : Value} {row : List Value} (h : w.ownsRow 0 T sz v n row) : n ≤ 9223372036854775807 := by
  rcases h.2 with ⟨_, h0⟩ | ⟨_, _, _, hv, _, _, hn, hm, _⟩
  · omega
  · unfold maxLen at hm
    omega

set_option maxRecDepth 100000 in
set_option maxHeartbeats 1000000 in
theorem eqStrings_any {w : World} {ok : Nat → Prop} {va vb : Value} {l : List Z.W} {ra rb : List Value} (hok : ∀ b, ok b → b < w.heap.size) (ha : w.ownsRow 0 9 1 va l.length ra) (hsa : ShAll ShStr w ok l ra) (hb : w.ownsRow 0 9 1 vb l.length rb) (hsb : ShAll ShStr w ok l rb) :
    Calls Tryz.prog 37 #[va, vb] w (TrueB w) := by
  have HA := Hid.mk' ha
  have HSA := Hid.mk' hsa
  have HB := Hid.mk' hb
  have HSB := Hid.mk' hsb
  have HK := Hid.mk' hok
  have hcap := cap_of ha
  obtain ⟨a, ca, rfl, _, _⟩ := owned_rows (P := Tryz.prog) ha
  obtain ⟨b, cb, rfl, _, _⟩ := owned_rows (P := Tryz.prog) hb
  clear ha hsa hb hsb hok
  go_enter Tryz.func37, Tryz.ntmps37
  go_wp2
  go_loopw [5] (fun i wr => ∃ k : Nat, k ≤ l.length ∧ i = .int .i64 k ∧ Below w.heap.size w wr) (fun i _ => l.length - (intOf i).toNat)
  case atStart => exact ⟨0, by omega, rfl, Below.refl _ _⟩
  case round =>
    obtain ⟨k, hk, rfl, hbw⟩ := hrel
    have hsz := hbw.size
    by_cases hlt : k < l.length
    · obtain ⟨e, he⟩ : ∃ e, l[k]? = some e := ⟨_, List.getElem?_eq_getElem hlt⟩
      obtain ⟨xa, hxa, hata⟩ := HSA.out.at ShStr.ok he
      obtain ⟨xb, hxb, hatb⟩ := HSB.out.at ShStr.ok he
      obtain rfl := hxa
      obtain rfl := hxb
      obtain ⟨ga, rfl⟩ := row_some HA.out (by omega)
      obtain ⟨gb, rfl⟩ := row_some HB.out (by omega)
      have a0 := cellB hbw (row_cell HA.out (hata 0 _ rfl))
      have b0 := cellB hbw (row_cell HB.out (hatb 0 _ rfl))
      clear hata hatb he
      simp only [Nat.add_zero, Nat.mul_one] at a0 b0
      go_wp2_with fail
      go_quiet (fail)
      go_wp2
      go_roundw
      case rel => exact ⟨k + 1, by omega, by go_num, below_drewN hbw _⟩
      case measure => simp [intOf]; omega
    · obtain rfl : k = l.length := by omega
      go_wp2
      go_ret
      exact ⟨rfl, hbw⟩

set_option maxRecDepth 100000 in
set_option maxHeartbeats 1000000 in
theorem eqColumns_any {w : World} {ok : Nat → Prop} {va vb : Value} {l : List Z.Co} {ra rb : List Value} (hok : ∀ b, ok b → b < w.heap.size) (ha : w.ownsRow 0 81 3 va l.length ra) (hsa : ShAll ShCol w ok l ra) (hb : w.ownsRow 0 81 3 vb l.length rb) (hsb : ShAll ShCol w ok l rb) :
    Calls Tryz.prog 36 #[va, vb] w (TrueB w) := by
  have HA := Hid.mk' ha
  have HSA := Hid.mk' hsa
  have HB := Hid.mk' hb
  have HSB := Hid.mk' hsb
  have HK := Hid.mk' hok
  have hcap := cap_of ha
  obtain ⟨a, ca, rfl, _, _⟩ := owned_rows (P := Tryz.prog) ha
  obtain ⟨b, cb, rfl, _, _⟩ := owned_rows (P := Tryz.prog) hb
  clear ha hsa hb hsb hok
  go_enter Tryz.func36, Tryz.ntmps36
  go_wp2
  go_loopw [5] (fun i wr => ∃ k : Nat, k ≤ l.length ∧ i = .int .i64 k ∧ Below w.heap.size w wr) (fun i _ => l.length - (intOf i).toNat)
  case atStart => exact ⟨0, by omega, rfl, Below.refl _ _⟩
  case round =>
    obtain ⟨k, hk, rfl, hbw⟩ := hrel
    have hsz := hbw.size
    by_cases hlt : k < l.length
    · obtain ⟨e, he⟩ : ∃ e, l[k]? = some e := ⟨_, List.getElem?_eq_getElem hlt⟩
      obtain ⟨xa, hxa, hata⟩ := HSA.out.at ShCol.ok he
      obtain ⟨xb, hxb, hatb⟩ := HSB.out.at ShCol.ok he
      obtain rfl := hxa
      obtain rfl := hxb
      obtain ⟨ga, rfl⟩ := row_some HA.out (by omega)
      obtain ⟨gb, rfl⟩ := row_some HB.out (by omega)
      have a0 := cellB hbw (row_cell HA.out (hata 0 _ rfl))
      have a1 := cellB hbw (row_cell HA.out (hata 1 _ rfl))
      have a2 := cellB hbw (row_cell HA.out (hata 2 _ rfl))
      have b0 := cellB hbw (row_cell HB.out (hatb 0 _ rfl))
      have b1 := cellB hbw (row_cell HB.out (hatb 1 _ rfl))
      have b2 := cellB hbw (row_cell HB.out (hatb 2 _ rfl))
      clear hata hatb he
      simp only [Nat.add_zero] at a0 b0
      go_wp2_with fail
      go_quiet (fail)
      go_wp2
      go_roundw
      case rel => exact ⟨k + 1, by omega, by go_num, below_drewN hbw _⟩
      case measure => simp [intOf]; omega
    · obtain rfl : k = l.length := by omega
      go_wp2
      go_ret
      exact ⟨rfl, hbw⟩

/-- EqExpr of two pieces that show the same tree. -/
theorem eqExpr_any {w w1 : World} {ok : Nat → Prop} {x : Z.Ex} {xa xb : List Value} (hok : ∀ b, ok b → b < w.heap.size) (ha : ShE w ok x xa) (hb : ShE w ok x xb) (hw : Below w.heap.size w w1) : Calls Tryz.prog 95 #[.agg xa.toArray, .agg xb.toArray] w1 (TrueB w1) := by
  obtain ⟨a2, c2, row2, rfl, ho2, hs2⟩ := ha.open
  obtain ⟨a3, c3, row3, rfl, ho3, hs3⟩ := hb.open
  refine eqExpr_step (x := x) (va := .slice a2 x.args.length c2) (vb := .slice a3 x.args.length c3) fun o1 o2 => ?_
  have hsz := hw.size
  have hbx := (hw.alloc hsz o1).alloc (by simp; omega) o2
  have hkx : ∀ b, ok b → ok b ∧ ((w1.alloc o1).alloc o2).heap[b]? = w.heap[b]? := fun b hb2 => ⟨hb2, hbx.block b (hok b hb2)⟩
  exact eqExprs_any _ (ok := ok) (fun b hb2 => by have := hok b hb2; simp; omega) (owns_keep ho2 hbx) (ShE.es.on hkx _ _ hs2) (owns_keep ho3 hbx) (ShE.es.on hkx _ _ hs3) rfl

set_option maxRecDepth 100000 in
set_option maxHeartbeats 1000000 in
theorem eqSet_any {w w1 : World} {ok : Nat → Prop} {q : Z.W × Z.Ex} {xa xb : List Value} (hok : ∀ b, ok b → b < w.heap.size) (ha : ShSet w ok q xa) (hb : ShSet w ok q xb) (hw : Below w.heap.size w w1) : Calls Tryz.prog 94 #[.agg xa.toArray, .agg xb.toArray] w1 (TrueB w1) := by
  obtain ⟨c2, rfl, h2⟩ := ha
  obtain ⟨c3, rfl, h3⟩ := hb
  have hsz := hw.size
  have HC := Hid.mk' (fun o1 o2 : Obj => eqExpr_any hok h2 h3 ((hw.alloc hsz o1).alloc (by simp; omega) o2))
  obtain ⟨a2, n2, row2, rfl, _, _⟩ := h2.open
  obtain ⟨a3, n3, row3, rfl, _, _⟩ := h3.open
  clear h2 h3 hok
  unfold eC at HC ⊢
  go_enter Tryz.func94, Tryz.ntmps94
  go_wp2_with (first
    | (go_at_call 95; refine (HC.out _ _).mono ?_; rintro e2 w2 ⟨rfl, hb2⟩; go_wp2)
    | fail)
  go_ret
  exact ⟨rfl, (((Below.refl w1.heap.size w1).alloc (Nat.le_refl _) _).alloc (by simp) _).trans (hb2.mono (by simp; omega))⟩

set_option maxRecDepth 100000 in
set_option maxHeartbeats 1000000 in
theorem eqOrder_any {w w1 : World} {ok : Nat → Prop} {q : Z.Ex × Bool} {xa xb : List Value} (hok : ∀ b, ok b → b < w.heap.size) (ha : ShKey w ok q xa) (hb : ShKey w ok q xb) (hw : Below w.heap.size w w1) : Calls Tryz.prog 96 #[.agg xa.toArray, .agg xb.toArray] w1 (TrueB w1) := by
  obtain ⟨c2, rfl, h2⟩ := ha
  obtain ⟨c3, rfl, h3⟩ := hb
  have hsz := hw.size
  have HC := Hid.mk' (fun o1 o2 : Obj => eqExpr_any hok h2 h3 ((hw.alloc hsz o1).alloc (by simp; omega) o2))
  obtain ⟨a2, n2, row2, rfl, _, _⟩ := h2.open
  obtain ⟨a3, n3, row3, rfl, _, _⟩ := h3.open
  clear h2 h3 hok
  unfold eC at HC ⊢
  simp only [List.cons_append, List.nil_append] at HC ⊢
  go_enter Tryz.func96, Tryz.ntmps96
  go_wp2_with (first
    | (go_at_call 95; refine (HC.out _ _).mono ?_; rintro e2 w2 ⟨rfl, hb2⟩; go_wp2)
    | fail)
  go_ret
  exact ⟨rfl, (((Below.refl w1.heap.size w1).alloc (Nat.le_refl _) _).alloc (by simp) _).trans (hb2.mono (by simp; omega))⟩

set_option maxRecDepth 100000 in
set_option maxHeartbeats 1000000 in
theorem eqSets_any {w : World} {ok : Nat → Prop} {va vb : Value} {l : List (Z.W × Z.Ex)} {ra rb : List Value} (hok : ∀ b, ok b → b < w.heap.size) (ha : w.ownsRow 0 85 8 va l.length ra) (hsa : ShAll ShSet w ok l ra) (hb : w.ownsRow 0 85 8 vb l.length rb) (hsb : ShAll ShSet w ok l rb) :
    Calls Tryz.prog 39 #[va, vb] w (TrueB w) := by
  have HA := Hid.mk' ha
  have HSA := Hid.mk' hsa
  have HB := Hid.mk' hb
  have HSB := Hid.mk' hsb
  have HK := Hid.mk' hok
  have hcap := cap_of ha
  obtain ⟨a, ca, rfl, _, _⟩ := owned_rows (P := Tryz.prog) ha
  obtain ⟨b, cb, rfl, _, _⟩ := owned_rows (P := Tryz.prog) hb
  clear ha hsa hb hsb hok
  go_enter Tryz.func39, Tryz.ntmps39
  go_wp2
  go_loopw [5] (fun i wr => ∃ k : Nat, k ≤ l.length ∧ i = .int .i64 k ∧ Below w.heap.size w wr) (fun i _ => l.length - (intOf i).toNat)
  case atStart => exact ⟨0, by omega, rfl, Below.refl _ _⟩
  case round =>
    obtain ⟨k, hk, rfl, hbw⟩ := hrel
    have hsz := hbw.size
    by_cases hlt : k < l.length
    · obtain ⟨e, he⟩ : ∃ e, l[k]? = some e := ⟨_, List.getElem?_eq_getElem hlt⟩
      obtain ⟨xa, hxa, hata⟩ := HSA.out.at ShSet.ok he
      obtain ⟨xb, hxb, hatb⟩ := HSB.out.at ShSet.ok he
      have HC := Hid.mk' (eqSet_any (w1 := wr.drew) HK.out hxa hxb (show Below w.heap.size w wr.drew from below_drewN hbw 1))
      obtain ⟨c2, rfl, h2⟩ := hxa
      obtain ⟨c3, rfl, h3⟩ := hxb
      obtain ⟨a2, n2, row2, rfl, _, _⟩ := h2.open
      obtain ⟨a3, n3, row3, rfl, _, _⟩ := h3.open
      obtain ⟨ga, rfl⟩ := row_some HA.out (by omega)
      obtain ⟨gb, rfl⟩ := row_some HB.out (by omega)
      have a0 := cellB hbw (row_cell HA.out (hata 0 _ rfl))
      have a1 := cellB hbw (row_cell HA.out (hata 1 _ rfl))
      have a2 := cellB hbw (row_cell HA.out (hata 2 _ rfl))
      have a3 := cellB hbw (row_cell HA.out (hata 3 _ rfl))
      have a4 := cellB hbw (row_cell HA.out (hata 4 _ rfl))
      have a5 := cellB hbw (row_cell HA.out (hata 5 _ rfl))
      have a6 := cellB hbw (row_cell HA.out (hata 6 _ rfl))
      have a7 := cellB hbw (row_cell HA.out (hata 7 _ rfl))
      have b0 := cellB hbw (row_cell HB.out (hatb 0 _ rfl))
      have b1 := cellB hbw (row_cell HB.out (hatb 1 _ rfl))
      have b2 := cellB hbw (row_cell HB.out (hatb 2 _ rfl))
      have b3 := cellB hbw (row_cell HB.out (hatb 3 _ rfl))
      have b4 := cellB hbw (row_cell HB.out (hatb 4 _ rfl))
      have b5 := cellB hbw (row_cell HB.out (hatb 5 _ rfl))
      have b6 := cellB hbw (row_cell HB.out (hatb 6 _ rfl))
      have b7 := cellB hbw (row_cell HB.out (hatb 7 _ rfl))
      unfold eC at HC
      clear h2 h3
      clear hata hatb he
      simp only [Nat.add_zero] at a0 b0
      go_wp2_with fail
      go_region_with (first | (go_at_call 94; refine HC.out.mono ?_; rintro e2 w2 ⟨rfl, hb2⟩; have hb3 := Hid.mk' (below_past hbw hsz hb2); clear hb2))
      all_goals go_wp2
      all_goals
        go_roundw
        case rel => exact ⟨k + 1, by omega, by go_num, hb3.out⟩
        case measure => simp [intOf]; omega
    · obtain rfl : k = l.length := by omega
      go_wp2
      go_ret
      exact ⟨rfl, hbw⟩

set_option maxRecDepth 100000 in
set_option maxHeartbeats 1000000 in
theorem eqOrders_any {w : World} {ok : Nat → Prop} {va vb : Value} {l : List (Z.Ex × Bool)} {ra rb : List Value} (hok : ∀ b, ok b → b < w.heap.size) (ha : w.ownsRow 0 87 8 va l.length ra) (hsa : ShAll ShKey w ok l ra) (hb : w.ownsRow 0 87 8 vb l.length rb) (hsb : ShAll ShKey w ok l rb) :
    Calls Tryz.prog 41 #[va, vb] w (TrueB w) := by
  have HA := Hid.mk' ha
  have HSA := Hid.mk' hsa
  have HB := Hid.mk' hb
  have HSB := Hid.mk' hsb
  have HK := Hid.mk' hok
  have hcap := cap_of ha
  obtain ⟨a, ca, rfl, _, _⟩ := owned_rows (P := Tryz.prog) ha
  obtain ⟨b, cb, rfl, _, _⟩ := owned_rows (P := Tryz.prog) hb
  clear ha hsa hb hsb hok
  go_enter Tryz.func41, Tryz.ntmps41
  go_wp2
  go_loopw [5] (fun i wr => ∃ k : Nat, k ≤ l.length ∧ i = .int .i64 k ∧ Below w.heap.size w wr) (fun i _ => l.length - (intOf i).toNat)
  case atStart => exact ⟨0, by omega, rfl, Below.refl _ _⟩
  case round =>
    obtain ⟨k, hk, rfl, hbw⟩ := hrel
    have hsz := hbw.size
    by_cases hlt : k < l.length
    · obtain ⟨e, he⟩ : ∃ e, l[k]? = some e := ⟨_, List.getElem?_eq_getElem hlt⟩
      obtain ⟨xa, hxa, hata⟩ := HSA.out.at ShKey.ok he
      obtain ⟨xb, hxb, hatb⟩ := HSB.out.at ShKey.ok he
      have HC := Hid.mk' (eqOrder_any (w1 := wr.drew) HK.out hxa hxb (show Below w.heap.size w wr.drew from below_drewN hbw 1))
      obtain ⟨c2, rfl, h2⟩ := hxa
      obtain ⟨c3, rfl, h3⟩ := hxb
      obtain ⟨a2, n2, row2, rfl, _, _⟩ := h2.open
      obtain ⟨a3, n3, row3, rfl, _, _⟩ := h3.open
      obtain ⟨ga, rfl⟩ := row_some HA.out (by omega)
      obtain ⟨gb, rfl⟩ := row_some HB.out (by omega)
      have a0 := cellB hbw (row_cell HA.out (hata 0 _ rfl))
      have a1 := cellB hbw (row_cell HA.out (hata 1 _ rfl))
      have a2 := cellB hbw (row_cell HA.out (hata 2 _ rfl))
      have a3 := cellB hbw (row_cell HA.out (hata 3 _ rfl))
      have a4 := cellB hbw (row_cell HA.out (hata 4 _ rfl))
      have a5 := cellB hbw (row_cell HA.out (hata 5 _ rfl))
      have a6 := cellB hbw (row_cell HA.out (hata 6 _ rfl))
      have a7 := cellB hbw (row_cell HA.out (hata 7 _ rfl))
      have b0 := cellB hbw (row_cell HB.out (hatb 0 _ rfl))
      have b1 := cellB hbw (row_cell HB.out (hatb 1 _ rfl))
      have b2 := cellB hbw (row_cell HB.out (hatb 2 _ rfl))
      have b3 := cellB hbw (row_cell HB.out (hatb 3 _ rfl))
      have b4 := cellB hbw (row_cell HB.out (hatb 4 _ rfl))
      have b5 := cellB hbw (row_cell HB.out (hatb 5 _ rfl))
      have b6 := cellB hbw (row_cell HB.out (hatb 6 _ rfl))
      have b7 := cellB hbw (row_cell HB.out (hatb 7 _ rfl))
      unfold eC at HC
      simp only [List.cons_append, List.nil_append] at HC
      clear h2 h3
      clear hata hatb he
      simp only [Nat.add_zero] at a0 b0
      go_wp2_with fail
      go_region_with (first | (go_at_call 96; refine HC.out.mono ?_; rintro e2 w2 ⟨rfl, hb2⟩; have hb3 := Hid.mk' (below_past hbw hsz hb2); clear hb2))
      all_goals go_wp2
      all_goals
        go_roundw
        case rel => exact ⟨k + 1, by omega, by go_num, hb3.out⟩
        case measure => simp [intOf]; omega
    · obtain rfl : k = l.length := by omega
      go_wp2
      go_ret
      exact ⟨rfl, hbw⟩

set_option maxRecDepth 100000 in
set_option maxHeartbeats 1000000 in
theorem eqLines_any {w : World} {ok : Nat → Prop} {va vb : Value} {l : List (List Z.Ex)} {ra rb : List Value} (hok : ∀ b, ok b → b < w.heap.size) (ha : w.ownsRow 0 26 1 va l.length ra) (hsa : ShAll (ShRow ShE 56 7) w ok l ra) (hb : w.ownsRow 0 26 1 vb l.length rb) (hsb : ShAll (ShRow ShE 56 7) w ok l rb) :
    Calls Tryz.prog 38 #[va, vb] w (TrueB w) := by
  have HA := Hid.mk' ha
  have HSA := Hid.mk' hsa
  have HB := Hid.mk' hb
  have HSB := Hid.mk' hsb
  have HK := Hid.mk' hok
  have hcap := cap_of ha
  obtain ⟨a, ca, rfl, _, _⟩ := owned_rows (P := Tryz.prog) ha
  obtain ⟨b, cb, rfl, _, _⟩ := owned_rows (P := Tryz.prog) hb
  clear ha hsa hb hsb hok
  go_enter Tryz.func38, Tryz.ntmps38
  go_wp2
  go_loopw [5] (fun i wr => ∃ k : Nat, k ≤ l.length ∧ i = .int .i64 k ∧ Below w.heap.size w wr) (fun i _ => l.length - (intOf i).toNat)
  case atStart => exact ⟨0, by omega, rfl, Below.refl _ _⟩
  case round =>
    obtain ⟨k, hk, rfl, hbw⟩ := hrel
    have hsz := hbw.size
    by_cases hlt : k < l.length
    · obtain ⟨e, he⟩ : ∃ e, l[k]? = some e := ⟨_, List.getElem?_eq_getElem hlt⟩
      obtain ⟨xa, hxa, hata⟩ := HSA.out.at (ShRow.ok ShE.ok _) he
      obtain ⟨xb, hxb, hatb⟩ := HSB.out.at (ShRow.ok ShE.ok _) he
      obtain ⟨v2, row2, rfl, ho2, hk2, hs2⟩ := hxa
      obtain ⟨v3, row3, rfl, ho3, hk3, hs3⟩ := hxb
      have hbx : Below w.heap.size w wr.drew := below_drewN hbw 1
      have hkx : ∀ b, ok b → ok b ∧ wr.drew.heap[b]? = w.heap[b]? := fun b hb2 => ⟨hb2, hbx.block b (HK.out b hb2)⟩
      have HC := Hid.mk' (eqExprs_any _ (w := wr.drew) (ok := ok) (fun b hb2 => Nat.lt_of_lt_of_le (HK.out b hb2) hsz) (owns_keep ho2 hbx) (ShE.es.on hkx _ _ hs2.es) (owns_keep ho3 hbx) (ShE.es.on hkx _ _ hs3.es) rfl)
      obtain ⟨_, _, hv2, _, _⟩ := owned_rows (P := Tryz.prog) ho2
      obtain ⟨_, _, hv3, _, _⟩ := owned_rows (P := Tryz.prog) ho3
      subst hv2 hv3
      clear hbx hkx hs2 hs3 ho2 ho3 hk2 hk3
      obtain ⟨ga, rfl⟩ := row_some HA.out (by omega)
      obtain ⟨gb, rfl⟩ := row_some HB.out (by omega)
      have a0 := cellB hbw (row_cell HA.out (hata 0 _ rfl))
      have b0 := cellB hbw (row_cell HB.out (hatb 0 _ rfl))
      clear hata hatb he
      simp only [Nat.add_zero, Nat.mul_one] at a0 b0
      go_wp2_with fail
      go_region_with (first | (go_at_call 40; refine HC.out.mono ?_; rintro e2 w2 ⟨rfl, hb2⟩; have hb3 := Hid.mk' (below_past hbw hsz hb2); clear hb2))
      all_goals go_wp2
      all_goals
        go_roundw
        case rel => exact ⟨k + 1, by omega, by go_num, hb3.out⟩
        case measure => simp [intOf]; omega
    · obtain rfl : k = l.length := by omega
      go_wp2
      go_ret
      exact ⟨rfl, hbw⟩
end Go.Proofs.YtmepkmhfjgocgaaGreatDoor
