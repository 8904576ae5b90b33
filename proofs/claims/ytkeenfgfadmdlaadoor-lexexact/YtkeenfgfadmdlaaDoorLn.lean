/-
  What the laws share: tokens shown by a slice; num, EqTokens, CopyTokens, Tokens (written over), wakes; a list of texts as it is read off an argument.
-/
import Derived.Test.YtkeenfgfadmdlaaDoorLk
import Derived.Test.YtkeenfgfadmdlaaDoorRows
import Derived.Laws.StructEq
namespace Go.Proofs.YtkeenfgfadmdlaaDoor
open Go.ChangeShapes Go.WideShapes Go.ChangeAt Go.RowKit Go.Deep

def z0 : L.Tok := (0, [], 0)
/-- A slice shows tokens. -/
def Shw (w : World) (v : Value) (T : List L.Tok) : Prop :=
  (∃ a cap, v = .slice a T.length cap ∧ (1 ≤ T.length → ∃ b o, a = some ⟨b, o, none⟩ ∧ ∀ j, j < T.length →
    w.cell? ⟨b, o + j * 3, none⟩ = some (.int .i64 (T.getD j z0).1) ∧ w.cell? ⟨b, o + j * 3 + 1, none⟩ = some (.string (S (T.getD j z0).2.1)) ∧ w.cell? ⟨b, o + j * 3 + 2, none⟩ = some (.int .i64 (T.getD j z0).2.2))) ∧ T.length ≤ 9223372036854775807

theorem cell_on {w wx : World} {a : Addr} {v : Value} (hb : Below w.heap.size w wx) (h : w.cell? a = some v) : wx.cell? a = some v := (hb.cell (World.block_lt_of_cell? _ _ h)).trans h
theorem Shw.below {w w' : World} {v : Value} {T : List L.Tok} (h : Shw w v T) (hb : Below w.heap.size w w') : Shw w' v T := by
  obtain ⟨⟨a, cap, rfl, hc⟩, hm⟩ := h
  refine ⟨⟨a, cap, rfl, fun h1 => ?_⟩, hm⟩
  obtain ⟨b, o, rfl, hj⟩ := hc h1
  exact ⟨b, o, rfl, fun j hlt => ⟨cell_on hb (hj j hlt).1, cell_on hb (hj j hlt).2.1, cell_on hb (hj j hlt).2.2⟩⟩

theorem TCs_at : ∀ (T : List L.Tok) (j : Nat), j < T.length → (TCs T)[j * 3]? = some (.int .i64 (T.getD j z0).1) ∧ (TCs T)[j * 3 + 1]? = some (.string (S (T.getD j z0).2.1)) ∧ (TCs T)[j * 3 + 2]? = some (.int .i64 (T.getD j z0).2.2)
  | [], j, h => absurd h (by simp)
  | x :: T, 0, _ => ⟨rfl, rfl, rfl⟩
  | x :: T, j + 1, h => by
    have e : TCs (x :: T) = TC x ++ TCs T := rfl
    have l3 : (TC x).length = 3 := rfl
    have := TCs_at T j (by simpa using h)
    rw [e, List.getElem?_append_right (by omega), List.getElem?_append_right (by omega), List.getElem?_append_right (by omega), l3, show (j + 1) * 3 - 3 = j * 3 by omega, show (j + 1) * 3 + 1 - 3 = j * 3 + 1 by omega, show (j + 1) * 3 + 2 - 3 = j * 3 + 2 by omega]
    exact this

theorem Tks.shw {w : World} {base : Nat} {v : Value} {T : List L.Tok} (h : Tks w base v T) (hm : T.length ≤ 9223372036854775807) : Shw w v T := by
  unfold Tks at h
  rcases h.2 with ⟨rfl, h0⟩ | ⟨g, cap, cur, rfl, _, hg, _⟩
  · exact ⟨⟨none, 0, by rw [h0], fun h1 => by omega⟩, hm⟩
  · refine ⟨⟨some ⟨g, 0, none⟩, cap, rfl, fun _ => ⟨g, 0, rfl, fun j hj => ?_⟩⟩, hm⟩
    obtain ⟨h1, h2, h3⟩ := TCs_at T j hj
    have ha : ∀ q, (⟨g, 0, none⟩ : Addr).add q = ⟨g, q, none⟩ := fun q => by unfold Addr.add; split <;> simp_all
    have k1 := h.cells (g := g) rfl _ _ h1
    have k2 := h.cells (g := g) rfl _ _ h2
    have k3 := h.cells (g := g) rfl _ _ h3
    rw [ha] at k1 k2 k3
    rw [Nat.zero_add]
    exact ⟨k1, k2, k3⟩
theorem Tks.below {w w' : World} {base : Nat} {v : Value} {T : List L.Tok} (h : Tks w base v T) (hb : Below w.heap.size w w') : Tks w' base v T := owns_keep h hb

theorem append_tok (w : World) (base : Nat) (v : Value) (n : Nat) (xs : List Value) (xv : Value) (m : Nat) (news : List Value) (hown : w.ownsRow base 36 3 v n xs) (hs : Src Tryd.prog 3 23 xv m news w)
    (hb : n + m ≤ 1000000000) (hbase : base ≤ w.heap.size) :
    ∃ v' w', (Builtin.append_ #[23, 23] 23 #[v, xv]).run Tryd.prog w = .ok v' w' ∧ w'.ownsRow base 36 3 v' (n + m) (xs ++ news) ∧ w.grownBy w' v.ownBlock ∧ (v'.ownBlock = v.ownBlock ∨ v'.ownBlock = some w.heap.size) := by
  obtain ⟨i0, hi, hz0, hz1, hz2⟩ := info_parts Tryd.info36
  exact run_append_src w base 23 23 23 36 i0 _ 3 32 Tryd.underlying23 hi hz0 hz1 hz2 rfl v n xs hown xv m news hs (by unfold maxLen; omega) (by omega) hbase

theorem take_getD (T : List L.Tok) (k : Nat) (h : k < T.length) : T.take (k + 1) = T.take k ++ [T.getD k z0] := by
  rw [List.take_succ_eq_append_getElem h, List.getD_eq_getElem?_getD, List.getElem?_eq_getElem h]
  rfl

set_option maxRecDepth 100000 in
set_option maxHeartbeats 400000 in
theorem num_any (e : Int) (w : World) : Calls Tryd.prog 9 #[.int .i64 e] w fun x w' => x = .returned (.int .i64 e) ∧ w' = w := by
  go_enter Tryd.func9, Tryd.ntmps9
  go_wp2
  go_ret
  exact ⟨rfl, rfl⟩

set_option maxRecDepth 100000 in
set_option maxHeartbeats 400000 in
theorem copyT_any (v : Value) (T : List L.Tok) (w : World) (hv : Shw w v T) (h200 : T.length ≤ 100000) :
    Calls Tryd.prog 13 #[v] w fun e w' => ∃ v', e = .returned v' ∧ Tks w' w.heap.size v' T ∧ Below w.heap.size w w' := by
  obtain ⟨⟨a, ca, rfl, ha⟩, hma⟩ := hv
  go_enter Tryd.func13, Tryd.ntmps13
  go_wp2
  go_loopw [3, 4] (fun t i wr => ∃ k : Nat, k ≤ T.length ∧ i = .int .i64 k ∧ Below w.heap.size w wr ∧ wr.ownsRow w.heap.size 36 3 t k (TCs (T.take k))) (fun _ i _ => T.length - (intOf i).toNat)
  case atStart => exact ⟨0, by omega, rfl, Below.refl _ _, World.ownsRow_nil _ _ _ _⟩
  case round =>
    obtain ⟨k, hk, rfl, hb, ho⟩ := hrel
    have hsz := hb.size
    have hbk := ho.lt
    by_cases hlt : k < T.length
    · obtain ⟨b, o, rfl, hc⟩ := ha (by omega)
      obtain ⟨c1, c2, c3⟩ := hc k hlt
      have HT := Hid.mk' (take_getD T k hlt)
      obtain ⟨⟨x1, x2, x3⟩, hx⟩ : ∃ x, T.getD k z0 = x := ⟨_, rfl⟩
      have HX := Hid.mk' hx
      rw [hx] at c1 c2 c3
      have d1 := cell_on hb c1
      have d2 := cell_on hb c2
      have d3 := cell_on hb c3
      have HA := Hid.mk' (append_tok _ w.heap.size _ _ _ _ 1 _ (ho.alloc _) (src_tok wr (x1, x2, x3)) (by omega) (by simp; omega))
      clear hc ha c1 c2 c3 hx ho
      simp only at d1 d2 d3 HA
      generalize S x2 = s2 at d2 HA
      go_wp2_with (at_builtin; refine wpList_append_run rfl _ _ 23 23 rfl _ _ rfl rfl HA.out ?_; rintro v5 w5 ⟨ho5, hg5, hl5⟩)
      go_roundw
      case rel =>
        refine ⟨k + 1, by omega, by go_num, (hb.alloc hsz _).grown hg5 (by simp; omega) (fun q hq => (hbk q hq).1), ?_⟩
        rw [HT.out, HX.out, TCs_snoc]
        exact ho5
      case measure => simp [intOf]; omega
    · have e : k = T.length := by omega
      have ho' := ho
      rw [e, List.take_length] at ho'
      have HO := Hid.mk' ho'
      clear ho ho' e
      go_wp2
      go_ret
      exact ⟨_, rfl, HO.out, hb⟩

set_option maxRecDepth 100000 in
set_option maxHeartbeats 400000 in
theorem eqT_same (va vb : Value) (T : List L.Tok) (w : World) (ha : Shw w va T) (hb : Shw w vb T) :
    Calls Tryd.prog 10 #[va, vb] w fun e w' => e = .returned (.bool true) ∧ ∃ nq, w' = w.drewN nq := by
  obtain ⟨⟨a, ca, rfl, ha⟩, hma⟩ := ha
  obtain ⟨⟨b, cb, rfl, hb⟩, hmb⟩ := hb
  go_enter Tryd.func10, Tryd.ntmps10
  go_wp2
  go_loopw [5] (fun i wr => ∃ k nq : Nat, k ≤ T.length ∧ i = .int .i64 k ∧ wr = w.drewN nq) (fun i _ => T.length - (intOf i).toNat)
  case atStart => exact ⟨0, 0, by omega, rfl, rfl⟩
  case round =>
    obtain ⟨k, nq0, hk, rfl, hw⟩ := hrel
    by_cases hlt : k < T.length
    · obtain ⟨b1, o1, rfl, hc1⟩ := ha (by omega)
      obtain ⟨b2, o2, rfl, hc2⟩ := hb (by omega)
      obtain ⟨p1, p2, p3⟩ := hc1 k hlt
      obtain ⟨q1, q2, q3⟩ := hc2 k hlt
      obtain ⟨⟨x1, x2, x3⟩, hx⟩ : ∃ x, T.getD k z0 = x := ⟨_, rfl⟩
      rw [hx] at p1 p2 p3 q1 q2 q3
      have hbel : Below w.heap.size w wr := by rw [hw]; exact below_drewN (Below.refl _ _) _
      have c1 := cell_on hbel p1
      have c2 := cell_on hbel p2
      have c3 := cell_on hbel p3
      have c4 := cell_on hbel q1
      have c5 := cell_on hbel q2
      have c6 := cell_on hbel q3
      have HW := Hid.mk' hw
      clear hc1 hc2 ha hb p1 p2 p3 q1 q2 q3 hx hw hbel
      simp only at c1 c2 c3 c4 c5 c6
      generalize S x2 = s2 at c2 c5
      go_wp2
      go_quiet (fail)
      go_wp2
      go_roundw
      case rel => exact ⟨k + 1, _, by omega, by go_num, by rw [HW.out]; exact World.drewN_drewN _ _ _⟩
      case measure => simp [intOf]; omega
    · subst hw
      go_wp2
      go_ret
      exact ⟨rfl, _, rfl⟩

set_option maxRecDepth 100000 in
set_option maxHeartbeats 400000 in
theorem spoilT_any (v : Value) (n base : Nat) (xs : List Value) (w : World) (ho : w.ownsRow base 36 3 v n xs) (hn : n ≤ 100000) (hbase : base ≤ w.heap.size) :
    Calls Tryd.prog 11 #[v] w fun e w' => e = .returned (.tuple #[]) ∧ Below base w w' := by
  obtain ⟨a, cap, rfl, hnc, _⟩ := owned_rows (P := Tryd.prog) ho
  go_enter Tryd.func11, Tryd.ntmps11
  go_wp2
  go_loopw [2] (fun i wr => ∃ (k : Nat) (xs : List Value), k ≤ n ∧ i = .int .i64 k ∧ wr.ownsRow base 36 3 (.slice a n cap) n xs ∧ Below base w wr) (fun i _ => n - (intOf i).toNat)
  case atStart => exact ⟨0, _, by omega, rfl, ho, Below.refl _ _⟩
  case round =>
    clear ho
    obtain ⟨k, xs, hk, rfl, hown, hb⟩ := hrel
    have hsz := hb.size
    by_cases hlt : k < n
    · obtain ⟨g, rfl, hg⟩ : ∃ g, a = some ⟨g, 0, none⟩ ∧ base ≤ g := by
        rcases hown.2 with ⟨_, h0⟩ | ⟨g, c, cur, hv, hg, _⟩
        · omega
        · exact ⟨g, by simp at hv; exact hv.1, hg⟩
      have hl := hown.1
      have c0 : wr.cell? ⟨g, k * 3, none⟩ = some (xs[k * 3]'(by omega)) := by rw [hown.cellAt (k * 3) (by omega)]; exact List.getElem?_eq_getElem (by omega)
      have c1 : wr.cell? ⟨g, k * 3 + 1, none⟩ = some (xs[k * 3 + 1]'(by omega)) := by rw [hown.cellAt (k * 3 + 1) (by omega)]; exact List.getElem?_eq_getElem (by omega)
      have c2 : wr.cell? ⟨g, k * 3 + 2, none⟩ = some (xs[k * 3 + 2]'(by omega)) := by rw [hown.cellAt (k * 3 + 2) (by omega)]; exact List.getElem?_eq_getElem (by omega)
      have z0 := hown.frozenAt (k * 3)
      have z1 := hown.frozenAt (k * 3 + 1)
      have z2 := hown.frozenAt (k * 3 + 2)
      have HO := Hid.mk' hown
      generalize xs[k * 3]'(by omega) = y0 at *
      generalize xs[k * 3 + 1]'(by omega) = y1 at *
      generalize xs[k * 3 + 2]'(by omega) = y2 at *
      clear hown hl
      go_wp2
      go_roundw
      case rel =>
        exact ⟨k + 1, _, by omega, by go_num, ((((HO.out.stored (k * 3) _).1).stored (k * 3 + 1) _).1.stored (k * 3 + 2) _).1, ((hb.setCell (p := ⟨g, k * 3, none⟩) hg _).setCell (p := ⟨g, k * 3 + 1, none⟩) hg _).setCell (p := ⟨g, k * 3 + 2, none⟩) hg _⟩
      case measure => simp [intOf]; omega
    · have HA := Hid.mk' (append_tok (wr.alloc (.cells #[.int .i64 0, .string ⟨#[]⟩, .int .i64 0] 36)) base _ _ _ _ 1 _ (hown.alloc _) (src_tok wr (0, [], 0)) (by omega) (by simp; omega))
      have hbk := hown.lt
      clear hown
      go_wp2_with (at_builtin; refine wpList_append_run rfl _ _ 23 23 rfl _ _ rfl rfl HA.out ?_; rintro v5 w5 ⟨ho5, hg5, hl5⟩)
      go_end0
      exact ⟨rfl, (hb.alloc (by omega) _).grown hg5 (by simp; omega) (fun q hq => (hbk q hq).1)⟩

theorem shw_two (w : World) (t u : L.Tok) : Shw (w.alloc (.cells #[.int .i64 t.1, .string (S t.2.1), .int .i64 t.2.2, .int .i64 u.1, .string (S u.2.1), .int .i64 u.2.2] 36)) (.slice (some ⟨w.heap.size, 0, none⟩) 2 2) [t, u] := by
  refine ⟨⟨_, 2, rfl, fun _ => ⟨w.heap.size, 0, rfl, fun j hj => ?_⟩⟩, by simp⟩
  match j, hj with
  | 0, _ => exact ⟨by simp, by simp, by simp⟩
  | 1, _ => exact ⟨by simp, by simp, by simp⟩
theorem shw_one (w : World) (t : L.Tok) : Shw (w.alloc (.cells #[.int .i64 t.1, .string (S t.2.1), .int .i64 t.2.2] 36)) (.slice (some ⟨w.heap.size, 0, none⟩) 1 1) [t] := by
  refine ⟨⟨_, 1, rfl, fun _ => ⟨w.heap.size, 0, rfl, fun j hj => ?_⟩⟩, by simp⟩
  match j, hj with
  | 0, _ => exact ⟨by simp, by simp, by simp⟩

theorem tok_wakes : L.tokens [65, 32, 39, 98, 39] = ([(1, [97], 0), (3, [98], 0)], 0) := by decide +kernel

set_option maxRecDepth 100000 in
set_option maxHeartbeats 400000 in
theorem wakes_any (w : World) (hv : Vr w) : Calls Tryd.prog 12 #[] w fun e w' => e = .returned (.bool true) ∧ Below w.heap.size w w' := by
  have HE := tokens_any [65, 32, 39, 98, 39] w hv
  rw [tok_wakes] at HE
  have HE' := Hid.mk' HE
  clear HE
  go_enter Tryd.func12, Tryd.ntmps12
  go_wp2_with fail
  refine HE'.out.mono ?_
  rintro e w1 ⟨v1, rfl, ho1, hb1⟩
  have s1 := (ho1.shw (by decide)).below ((Below.refl _ _).alloc (Nat.le_refl _) (.cells #[.int .i64 1, .string ⟨#[97]⟩, .int .i64 0, .int .i64 3, .string ⟨#[98]⟩, .int .i64 0] 36))
  have s2 : Shw (w1.alloc (.cells #[.int .i64 1, .string ⟨#[97]⟩, .int .i64 0, .int .i64 3, .string ⟨#[98]⟩, .int .i64 0] 36)) (.slice (some ⟨w1.heap.size, 0, none⟩) 2 2) [(1, [97], 0), (3, [98], 0)] := shw_two w1 (1, [97], 0) (3, [98], 0)
  have HQ := Hid.mk' (eqT_same _ _ _ _ s1 s2)
  clear ho1 s1 s2
  go_wp2_with (first
    | (go_at_call 9; refine (num_any _ _).mono ?_; rintro e w2 ⟨rfl, rfl⟩)
    | (go_at_call 10; refine (HQ.out).mono ?_; rintro e w3 ⟨rfl, nq3, rfl⟩))
  go_ret
  exact ⟨rfl, below_drewN (hb1.alloc hb1.size _) _⟩

theorem own : ownKnob Tryd.prog.godebug = none := by kernel_rfl
theorem laidOut : laidOutB Tryd.prog = true := by kernel_rfl
theorem cw9 : Tryd.prog.cellsOf 9 = 1 := by kernel_rfl

theorem weights_all {H : Type} {P : Program} {e : TypeId} {ds : List (DataW H)} {d : DataW H} (hd : d ∈ ds) : ∀ n ∈ d.weights P e, n ∈ DataW.weightsAll P e ds := by
  induction ds with
  | nil => cases hd
  | cons x r ih =>
    intro n hn
    simp only [DataW.weightsAll, List.mem_append]
    rcases List.mem_cons.1 hd with rfl | h
    · exact .inl hn
    · exact .inr (ih h n hn)

theorem text_weight {H : Type} {es sp0 : List (DataW H)} {bs : List UInt8} (hz : (DataW.weightsEach Tryd.prog [22] [.slice es sp0]).all (· ≤ reachBytes) = true)
    (hm : .lit (.string bs) ∈ es) : bs.length ≤ 140737488351232 := by
  have h1 : bs.length ∈ (DataW.lit (H := H) (.string bs)).weights Tryd.prog 9 := by simp [DataW.weights]
  have h2 := weights_all hm _ h1
  have h3 : bs.length ∈ DataW.weightsEach Tryd.prog [22] [.slice es sp0] := by
    simp only [DataW.weightsEach, DataW.weights, Tryd.underlying22, List.append_nil, List.mem_cons, List.mem_append]
    exact .inr (.inl h2)
  have h4 : bs.length ≤ reachBytes := of_decide_eq_true (List.all_eq_true.1 hz _ h3)
  unfold reachBytes at h4
  omega

/-- What a law is handed: a list of n texts. -/
def Asks (w : World) (v : Value) (n : Nat) (A : Nat → ByteArray) : Prop :=
  (∃ a cap, v = .slice a n cap ∧ (1 ≤ n → ∃ b o, a = some ⟨b, o, none⟩ ∧ ∀ i, i < n → w.cell? ⟨b, o + i, none⟩ = some (.string (A i)) ∧ (A i).size ≤ 140737488351232)) ∧ n ≤ 9223372036854775807

theorem asks_of {H : Type} {enc : TypeId × Value → H} {W : World} {spare : Nat → Bool} {held : Bool} {v : Value} {d : DataW H} {p : List MemPlace} (hv : ∃ a n c, v = .slice a n c)
    (h0 : DataW.Trod enc Tryd.prog W 0 spare held 22 v d p) (hz : (DataW.weightsEach Tryd.prog [22] [d]).all (· ≤ reachBytes) = true) : ∃ (n : Nat) (A : Nat → ByteArray), Asks W v n A := by
  obtain ⟨a0, len0, cap0, rfl⟩ := hv
  obtain ⟨fuel, h⟩ := h0
  rcases open_slice Tryd.underlying22 h with ⟨hcs, _⟩ | ⟨a, len, cap, m, n, D, Pl, hcs, _, hl, hm, hmm, hxx, hx⟩
  · simp [Value.cells] at hcs
    obtain ⟨rfl, rfl, rfl⟩ := hcs
    exact ⟨0, fun _ => ⟨#[]⟩, ⟨none, 0, rfl, fun h => absurd h (by omega)⟩, by omega⟩
  · simp [Value.cells] at hcs
    obtain ⟨rfl, rfl, rfl⟩ := hcs
    have hm' : len0 ≤ m := by rw [hmm]; split <;> omega
    have e0 : ∀ i, i < len0 → ∃ q : ByteArray, q.size ≤ 140737488351232 ∧ ∀ j, j < 1 → W.cell? ((a.add (i * 1)).add j) = [Value.string q][j]? := by
      intro i hi
      obtain ⟨cs', h1, h2⟩ := hx i (by omega)
      rw [cw9] at h1
      obtain ⟨_, _, hcell⟩ := World.cells?_some h1
      obtain ⟨s, rfl, hD, _⟩ := DataW.trod_string Tryd.underlying9 h2
      refine ⟨s, ?_, hcell⟩
      have hd : d = _ := (Prod.mk.inj hxx).1
      rw [hd] at hz
      have := text_weight hz (bs := s.data.toList) (List.mem_map.2 ⟨i, List.mem_range.2 hi, (Prod.mk.inj hD).1⟩)
      simpa using this
    obtain ⟨Q, hQ⟩ := choose_lt e0
    refine ⟨len0, Q, ⟨some a, _, rfl, fun h1 => ?_⟩, by unfold maxLen at hm; omega⟩
    have h0 := (hQ 0 (by omega)).2 0 (by omega)
    simp at h0
    have hs : a.spot = none := by simpa [Addr.add] using World.cell?_spot h0
    obtain ⟨b, o, e⟩ := a
    simp only at hs
    subst hs
    refine ⟨b, o, rfl, fun i hi => ?_⟩
    refine ⟨?_, (hQ i hi).1⟩
    have := (hQ i hi).2 0 (by omega)
    have e1 : ((⟨b, o, none⟩ : Addr).add (i * 1)).add 0 = ⟨b, o + i, none⟩ := by
      unfold Addr.add
      by_cases hi0 : i = 0 <;> simp [hi0]
    rw [e1] at this
    exact this
end Go.Proofs.YtkeenfgfadmdlaaDoor
