/-
  The reference's disk in memory; the contracts of its find, stroke, end, missing, Strokes and Size.
-/
import Derived.Test.YthkjjebghfcgkaaEm
import Derived.Test.YthkjjebghfcgkaaSg
namespace Go.Proofs.Ythkjjebghfcgkaa
open Go.RowKit Go.Maps

/-- A row of one kind stays where a block of another kind is written. -/
theorem Fr.owns_ty {g : Nat} {w w' : World} (hF : Fr [g] w w') {cur : Array Value} {t : TypeId} {fr : Nat × Nat} (hg : w.heap[g]? = some (.cells cur t fr)) {base : Nat} {e : TypeId} {size : Nat} {v : Value} {n : Nat} {xs : List Value} (ho : w.ownsRow base e size v n xs) (hne : e ≠ t) : w'.ownsRow base e size v n xs := by
  refine hF.owns ho (fun k hk hm => ?_)
  rcases ho.2 with ⟨rfl, _⟩ | ⟨g', cap, cur', rfl, _, hgb, _⟩
  · cases hk
  · obtain rfl : g' = k := by simpa [Value.ownBlock] using hk
    obtain rfl : g' = g := by simpa using hm
    rw [hg] at hgb
    obtain ⟨_, h2, _⟩ := by simpa using hgb
    exact hne h2.symm

def TC (t : Int × Int) : List Value := [.int .i64 t.1, .int .i64 t.2]
def TCs (T : List (Int × Int)) : List Value := T.flatMap TC
theorem TCs_at (T : List (Int × Int)) : ∀ j, j < T.length → (TCs T)[j * 2]? = some (.int .i64 (T.getD j (0, 0)).1) ∧ (TCs T)[j * 2 + 1]? = some (.int .i64 (T.getD j (0, 0)).2) := by
  induction T with
  | nil => intro j h; simp at h
  | cons x T ih =>
    intro j h
    have e : TCs (x :: T) = .int .i64 x.1 :: .int .i64 x.2 :: TCs T := rfl
    cases j with
    | zero => rw [e]; exact ⟨rfl, rfl⟩
    | succ j =>
      obtain ⟨h1, h2⟩ := ih j (by simpa using h)
      rw [e, show (j + 1) * 2 = j * 2 + 1 + 1 by omega]
      refine ⟨by simpa using h1, ?_⟩
      rw [show j * 2 + 1 + 1 + 1 = (j * 2 + 1) + 1 + 1 by omega]
      simpa using h2

/-- The reference's disk at block R: its files at v, its troubles at tv. -/
def RD (w : World) (R : Nat) (v tv : Value) (L : List FR) (T : List (Int × Int)) (s : Int) (off : Bool) : Prop :=
  w.heap[R]? = some (.cells #[v, tv, .int .i64 s, .bool off] 78 (0, 0)) ∧ (w.ownsRow 0 80 3 v L.length (FCs L) ∧ L.length ≤ 16) ∧
  (∀ x ∈ L, Rw w x.sv x.safe ∧ Rw w x.nv x.seen) ∧ (w.ownsRow 0 61 2 tv T.length (TCs T) ∧ T.length ≤ 100)
/-- All its blocks; those that it writes into. -/
def rall (R : Nat) (v tv : Value) (L : List FR) : List Nat := R :: (v.ownBlock.toList ++ (tv.ownBlock.toList ++ feet L))
def rf (R : Nat) (v : Value) : List Nat := R :: v.ownBlock.toList

theorem RD.cells {w : World} {R : Nat} {v tv : Value} {L : List FR} {T : List (Int × Int)} {s : Int} {off : Bool} (h : RD w R v tv L T s off) :
    w.cell? ⟨R, 0, none⟩ = some v ∧ w.cell? ⟨R, 1, none⟩ = some tv ∧ w.cell? ⟨R, 2, none⟩ = some (.int .i64 s) ∧ w.cell? ⟨R, 3, none⟩ = some (.bool off) ∧ ∀ i, w.frozen? ⟨R, i, none⟩ = false := by
  have h1 := h.1
  refine ⟨?_, ?_, ?_, ?_, fun i => by simp [World.frozen?, h1]⟩ <;> simp [World.cell?, h1]
theorem RD.files {w : World} {R : Nat} {v tv : Value} {L : List FR} {T : List (Int × Int)} {s : Int} {off : Bool} (h : RD w R v tv L T s off) :
    ∃ a c, v = .slice a L.length c ∧ L.length ≤ c ∧ c ≤ 9223372036854775807 ∧ (1 ≤ L.length → ∃ g, a = some ⟨g, 0, none⟩ ∧ ∀ j, j < L.length → w.cell? ⟨g, j * 3, none⟩ = some (.string (L.getD j z0).nm) ∧ w.cell? ⟨g, j * 3 + 1, none⟩ = some (L.getD j z0).sv ∧ w.cell? ⟨g, j * 3 + 2, none⟩ = some (L.getD j z0).nv ∧ ∀ i, w.frozen? ⟨g, i, none⟩ = false) := by
  have h2 := h.2.1.1
  rcases h2.2 with ⟨rfl, h0⟩ | ⟨g, cap, cur, rfl, _, hg, hn, hm, _⟩
  · exact ⟨none, 0, by rw [h0], by omega, by omega, fun h1 => by omega⟩
  · refine ⟨some ⟨g, 0, none⟩, cap, rfl, hn, by unfold maxLen at hm; omega, fun _ => ⟨g, rfl, fun j hj => ?_⟩⟩
    obtain ⟨e1, e2, e3⟩ := FCs_at L j hj
    have k1 := h2.cells (g := g) rfl _ _ e1
    have k2 := h2.cells (g := g) rfl _ _ e2
    have k3 := h2.cells (g := g) rfl _ _ e3
    rw [Addr.add_lit, Nat.zero_add] at k1 k2 k3
    exact ⟨k1, k2, k3, fun i => by simp [World.frozen?, hg]⟩
theorem RD.trouble {w : World} {R : Nat} {v tv : Value} {L : List FR} {T : List (Int × Int)} {s : Int} {off : Bool} (h : RD w R v tv L T s off) :
    ∃ a c, tv = .slice a T.length c ∧ (1 ≤ T.length → ∃ g, a = some ⟨g, 0, none⟩ ∧ ∀ j, j < T.length → w.cell? ⟨g, j * 2, none⟩ = some (.int .i64 (T.getD j (0, 0)).1) ∧ w.cell? ⟨g, j * 2 + 1, none⟩ = some (.int .i64 (T.getD j (0, 0)).2)) := by
  have h2 := h.2.2.2.1
  rcases h2.2 with ⟨rfl, h0⟩ | ⟨g, cap, cur, rfl, _, hg, hn, hm, _⟩
  · exact ⟨none, 0, by rw [h0], fun h1 => by omega⟩
  · refine ⟨some ⟨g, 0, none⟩, cap, rfl, fun _ => ⟨g, rfl, fun j hj => ?_⟩⟩
    obtain ⟨e1, e2⟩ := TCs_at T j hj
    have k1 := h2.cells (g := g) rfl _ _ e1
    have k2 := h2.cells (g := g) rfl _ _ e2
    rw [Addr.add_lit, Nat.zero_add] at k1 k2
    exact ⟨k1, k2⟩
theorem RD.lt {w : World} {R : Nat} {v tv : Value} {L : List FR} {T : List (Int × Int)} {s : Int} {off : Bool} (h : RD w R v tv L T s off) : ∀ k ∈ rall R v tv L, k < w.heap.size := by
  intro k hk
  simp only [rall, List.mem_cons, List.mem_append] at hk
  rcases hk with rfl | hk | hk | hk
  · exact (Array.getElem?_eq_some_iff.1 h.1).1
  · exact (h.2.1.1.lt k (by simpa using hk)).2
  · exact (h.2.2.2.1.lt k (by simpa using hk)).2
  · obtain ⟨x, hx, hk⟩ := List.mem_flatMap.1 hk
    obtain ⟨h1, h2⟩ := h.2.2.1 x hx
    simp only [feet1, List.mem_append] at hk
    rcases hk with hk | hk
    · exact (h1.1.lt k (by simpa using hk)).2
    · exact (h2.1.lt k (by simpa using hk)).2
/-- It stays where none of its blocks is written. -/
theorem RD.fr {w w' : World} {R : Nat} {v tv : Value} {L : List FR} {T : List (Int × Int)} {s : Int} {off : Bool} (h : RD w R v tv L T s off) {fs : List Nat} (hF : Fr fs w w') (hn : ∀ k ∈ rall R v tv L, k ∉ fs) : RD w' R v tv L T s off := by
  have hm : ∀ k, k = R ∨ v.ownBlock = some k ∨ tv.ownBlock = some k ∨ k ∈ feet L → k ∉ fs := fun k hk => hn k (by simp only [rall, List.mem_cons, List.mem_append, Option.mem_toList]; exact hk)
  refine ⟨by rw [hF.2.2 R (Array.getElem?_eq_some_iff.1 h.1).1 (hm R (.inl rfl))]; exact h.1, ⟨hF.owns h.2.1.1 (fun k hk => hm k (.inr (.inl hk))), h.2.1.2⟩, fun x hx => ?_, ⟨hF.owns h.2.2.2.1 (fun k hk => hm k (.inr (.inr (.inl hk)))), h.2.2.2.2⟩⟩
  obtain ⟨h1, h2⟩ := h.2.2.1 x hx
  exact ⟨hF.rw h1 (fun k hk => hm k (.inr (.inr (.inr (List.mem_flatMap.2 ⟨x, hx, by simp [feet1, hk]⟩))))), hF.rw h2 (fun k hk => hm k (.inr (.inr (.inr (List.mem_flatMap.2 ⟨x, hx, by simp [feet1, hk]⟩)))))⟩
theorem RD.on {w w' : World} {R : Nat} {v tv : Value} {L : List FR} {T : List (Int × Int)} {s : Int} {off : Bool} (h : RD w R v tv L T s off) (hb : Below w.heap.size w w') : RD w' R v tv L T s off := h.fr (Fr.of_below (fs := []) hb) (fun _ _ hk => by cases hk)
/-- Its own cells are written. -/
theorem RD.own {w w' : World} {R : Nat} {v tv : Value} {L : List FR} {T : List (Int × Int)} {s : Int} {off : Bool} (h : RD w R v tv L T s off) (hF : Fr [R] w w') {s' : Int} {off' : Bool} (hR : w'.heap[R]? = some (.cells #[v, tv, .int .i64 s', .bool off'] 78 (0, 0))) : RD w' R v tv L T s' off' :=
  ⟨hR, ⟨hF.owns_ty h.1 h.2.1.1 (by decide), h.2.1.2⟩, fun x hx => ⟨⟨hF.owns_ty h.1 (h.2.2.1 x hx).1.1 (by decide), (h.2.2.1 x hx).1.2⟩, hF.owns_ty h.1 (h.2.2.1 x hx).2.1 (by decide), (h.2.2.1 x hx).2.2⟩, hF.owns_ty h.1 h.2.2.2.1 (by decide), h.2.2.2.2⟩
theorem RD.count {w : World} {R : Nat} {v tv : Value} {L : List FR} {T : List (Int × Int)} {s : Int} {off : Bool} (h : RD w R v tv L T s off) (s' : Int) : RD (w.setCell ⟨R, 2, none⟩ (.int .i64 s')) R v tv L T s' off :=
  h.own (Fr.of_set w ⟨R, 2, none⟩ _) (by rw [heap_setCell_same w R 2 _ _ _ h.1]; rfl)
theorem RD.dark {w : World} {R : Nat} {v tv : Value} {L : List FR} {T : List (Int × Int)} {s : Int} {off : Bool} (h : RD w R v tv L T s off) : RD (w.setCell ⟨R, 3, none⟩ (.bool true)) R v tv L T s true :=
  h.own (Fr.of_set w ⟨R, 3, none⟩ _) (by rw [heap_setCell_same w R 3 _ _ _ h.1]; rfl)

/-- How a call leaves the reference's disk. -/
def RMoved (w : World) (R : Nat) (v tv : Value) (L : List FR) (T : List (Int × Int)) (s : Int) (off : Bool) (v' : Value) (L' : List FR) (w' : World) : Prop :=
  RD w' R v' tv L' T s off ∧ Fr (rf R v) w w' ∧ ∀ k ∈ rall R v' tv L', k ∈ rall R v tv L ∨ w.heap.size ≤ k

set_option maxRecDepth 100000 in
set_option maxHeartbeats 400000 in
theorem rend_any {w : World} {R : Nat} {v tv : Value} {L : List FR} {T : List (Int × Int)} {s : Int} {off : Bool} (h : RD w R v tv L T s off) : Calls Try.prog 69 #[.pointer (some ⟨R, 0, none⟩)] w fun e w' => e = .returned (.int .i64 (if off = true then 9 else 0)) ∧ w' = w := by
  obtain ⟨_, _, _, c3, _⟩ := h.cells
  clear h
  cases off
  all_goals
    go_enter Try.func69, Try.ntmps69
    go_wp2
    go_ret
    exact ⟨rfl, rfl⟩
set_option maxRecDepth 100000 in
set_option maxHeartbeats 400000 in
theorem rmissing_any {w : World} {R : Nat} {v tv : Value} {L : List FR} {T : List (Int × Int)} {s : Int} {off : Bool} (h : RD w R v tv L T s off) : Calls Try.prog 67 #[.pointer (some ⟨R, 0, none⟩)] w fun e w' => e = .returned (.int .i64 (if off = true then 9 else 2)) ∧ w' = w := by
  obtain ⟨_, _, _, c3, _⟩ := h.cells
  clear h
  cases off
  all_goals
    go_enter Try.func67, Try.ntmps67
    go_wp2
    go_ret
    exact ⟨rfl, rfl⟩
set_option maxRecDepth 100000 in
set_option maxHeartbeats 400000 in
theorem rstrokes_any {w : World} {R : Nat} {v tv : Value} {L : List FR} {T : List (Int × Int)} {s : Int} {off : Bool} (h : RD w R v tv L T s off) : Calls Try.prog 17 #[.pointer (some ⟨R, 0, none⟩)] w fun e w' => e = .returned (.int .i64 s) ∧ w' = w := by
  obtain ⟨_, _, c2, _, _⟩ := h.cells
  clear h
  go_enter Try.func17, Try.ntmps17
  go_wp2
  go_ret
  exact ⟨rfl, rfl⟩

theorem has_none {L : List FR} {t : ByteArray} (h : ∀ j, j < L.length → (L.getD j z0).nm ≠ t) : M.has (names L) t = false := by
  unfold M.has
  rw [List.any_eq_false]
  intro x hx
  obtain ⟨y, hy, rfl⟩ := List.mem_map.1 hx
  obtain ⟨i, hi, rfl⟩ := List.getElem_of_mem hy
  have := h i hi
  simpa [List.getD_eq_getElem?_getD, hi] using this

/-- Where a name is found; -1: nowhere. -/
def rfd (N : List ByteArray) (t : ByteArray) : Int := if M.has N t = true then (M.pos N t : Int) else -1

set_option maxRecDepth 100000 in
set_option maxHeartbeats 400000 in
theorem rfind_any {w : World} {R : Nat} {v tv : Value} {L : List FR} {T : List (Int × Int)} {s : Int} {off : Bool} (h : RD w R v tv L T s off) (hr : M.rise (names L)) (t : ByteArray) :
    Calls Try.prog 66 #[.pointer (some ⟨R, 0, none⟩), .string t] w fun e w' => e = .returned (.int .i64 (rfd (names L) t)) ∧ w' = w := by
  obtain ⟨c0, _, _, _, _⟩ := h.cells
  obtain ⟨a, c, rfl, _, _, hrow⟩ := h.files
  have h16 := h.2.1.2
  clear h
  go_enter Try.func66, Try.ntmps66
  go_wp2
  go_loopw [5] (fun i wr => ∃ k : Nat, k ≤ L.length ∧ i = .int .i64 k ∧ wr = w ∧ ∀ j, j < k → (L.getD j z0).nm ≠ t) (fun i _ => L.length - (intOf i).toNat)
  case atStart => exact ⟨0, by omega, rfl, rfl, fun j hj => by omega⟩
  case round =>
    obtain ⟨k, hk, rfl, hw, hall⟩ := hrel
    obtain rfl := hw.symm
    clear hw
    have HA := Hid.mk' hall
    clear hall
    by_cases hlt : k < L.length
    · obtain ⟨g, rfl, hc⟩ := hrow (by omega)
      obtain ⟨d0, _, _, _⟩ := hc k hlt
      have HP := Hid.mk' (pos_at hr hlt)
      clear hc hrow
      by_cases he : (L.getD k z0).nm = t
      · have t1 : ((L.getD k z0).nm.toList == t.toList) = true := by rw [he]; simp
        have HR : Hid (M.has (names L) t = true ∧ M.pos (names L) t = k) := by show _ ∧ _; rw [← he]; exact HP.out
        clear he HP
        generalize (L.getD k z0).nm = nm at *
        go_wp2
        go_ret
        refine ⟨?_, rfl⟩
        unfold rfd
        rw [if_pos HR.out.1, HR.out.2]
        rfl
      · have t1 : ((L.getD k z0).nm.toList == t.toList) = false := by
          rw [beq_eq_false_iff_ne]
          exact fun e => he (M.toList_inj e)
        have HE := Hid.mk' he
        clear he HP
        generalize hg : (L.getD k z0).nm = nm at *
        have HG := Hid.mk' hg
        clear hg
        go_wp2
        go_roundw
        case rel =>
          refine ⟨k + 1, by omega, by go_num, by trivial, fun j hj => ?_⟩
          by_cases hjk : j = k
          · subst hjk; rw [HG.out]; exact HE.out
          · exact HA.out j (by omega)
        case measure => simp [intOf]; omega
    · have HR := Hid.mk' (has_none (t := t) (fun j hj => HA.out j (by omega)))
      clear hrow
      go_wp2
      go_ret
      refine ⟨?_, rfl⟩
      unfold rfd
      rw [HR.out]
      rfl

theorem first_none : ∀ {T : List (Int × Int)} {j : Int}, (∀ i, i < T.length → (T.getD i (0, 0)).1 ≠ j) → first T j = 0
  | [], _, _ => rfl
  | t :: T, j, h => by
    have h0 := h 0 (by simp)
    rw [first, if_neg (by simpa using h0)]
    exact first_none (fun i hi => by have := h (i + 1) (by simpa using hi); simpa using this)
theorem first_at : ∀ {T : List (Int × Int)} {j : Int} {k : Nat}, k < T.length → (∀ i, i < k → (T.getD i (0, 0)).1 ≠ j) → (T.getD k (0, 0)).1 = j → first T j = (T.getD k (0, 0)).2
  | [], _, _, hk, _, _ => by simp at hk
  | t :: T, j, 0, _, _, he => by rw [first, if_pos (by simpa using he)]; rfl
  | t :: T, j, k + 1, hk, h, he => by
    have h0 := h 0 (by omega)
    rw [first, if_neg (by simpa using h0), first_at (k := k) (by simpa using hk) (fun i hi => by have := h (i + 1) (by omega); simpa using this) (by simpa using he)]
    rfl
/-- What the reference's stroke tells, and the power behind it. -/
def rst (off : Bool) (k : Int) : Int × Bool := if off = true then (9, true) else if k = 1 then (9, false) else if k = 2 then (10, false) else if k = 3 then (0, true) else (0, false)

set_option maxRecDepth 100000 in
set_option maxHeartbeats 1000000 in
theorem rstroke_any {w : World} {R : Nat} {v tv : Value} {L : List FR} {T : List (Int × Int)} {s : Int} {off : Bool} (h : RD w R v tv L T s off) (hs : 0 ≤ s ∧ s ≤ 1000000) (hT : T.all tOk = true) :
    Calls Try.prog 65 #[.pointer (some ⟨R, 0, none⟩)] w fun e w' => e = .returned (.int .i64 (rst off (first T (s + 1))).1) ∧ RD w' R v tv L T (s + 1) (rst off (first T (s + 1))).2 ∧ Fr [R] w w' := by
  have HC := Hid.mk' (h.count (s + 1))
  have HF : Hid (Fr [R] w (w.setCell ⟨R, 2, none⟩ (.int .i64 (s + 1)))) := Fr.of_set w ⟨R, 2, none⟩ _
  obtain ⟨_, _, c2, c3, fz⟩ := h.cells
  have f2 := fz 2
  clear h fz
  go_enter Try.func65, Try.ntmps65
  go_upto_region 2 with fail
  generalize w.setCell ⟨R, 2, none⟩ (.int .i64 (s + 1)) = w1 at *
  clear c2 c3 f2
  obtain ⟨_, c1, c2, c3, fz⟩ := HC.out.cells
  have f3 := fz 3
  clear fz
  cases off with
  | true =>
    go_wp2
    go_ret
    exact ⟨rfl, HC.out, HF.out⟩
  | false =>
    obtain ⟨a, c, hta, htr⟩ := HC.out.trouble
    have hT1 := HC.out.2.2.2.2
    rw [hta] at c1
    have HTa := Hid.mk' hta
    clear hta
    obtain ⟨nT, hnT⟩ : ∃ n, T.length = n := ⟨_, rfl⟩
    rw [hnT] at c1 htr hT1
    have HnT := Hid.mk' hnT
    clear hnT
    go_wp2
    go_loopw [3] (fun i wr => ∃ k nq : Nat, k ≤ nT ∧ i = .int .i64 k ∧ wr = w1.drewN nq ∧ ∀ j, j < k → (T.getD j (0, 0)).1 ≠ s + 1) (fun i _ => nT - (intOf i).toNat)
    case atStart => exact ⟨0, 0, by omega, rfl, rfl, fun j hj => by omega⟩
    case round =>
      obtain ⟨k, mq, hk, rfl, hwr, hall⟩ := hrel
      have HW := Hid.mk' hwr
      have HA := Hid.mk' hall
      clear hall
      have e1 : wr.cell? ⟨R, 1, none⟩ = some (.slice a nT c) := by rw [hwr]; exact c1
      have e2 : wr.cell? ⟨R, 2, none⟩ = some (.int .i64 (s + 1)) := by rw [hwr]; exact c2
      have e3 : wr.cell? ⟨R, 3, none⟩ = some (.bool false) := by rw [hwr]; exact c3
      have f4 : wr.frozen? ⟨R, 3, none⟩ = false := by rw [hwr]; exact f3
      have HCw : Hid (RD wr R v tv L T (s + 1) false) := by show RD _ _ _ _ _ _ _ _; rw [hwr]; exact HC.out.on (below_drewN (Below.refl _ _) _)
      have HFw : Hid (Fr [R] w wr) := by show Fr _ _ _; rw [hwr]; exact HF.out.drewN _
      clear c1 c2 c3 f3
      by_cases hlt : k < nT
      · obtain ⟨g, rfl, hc⟩ := htr (by omega)
        obtain ⟨d0, d1⟩ := hc k hlt
        have e4 : wr.cell? ⟨g, k * 2, none⟩ = some (.int .i64 (T.getD k (0, 0)).1) := by rw [hwr]; exact d0
        have e5 : wr.cell? ⟨g, k * 2 + 1, none⟩ = some (.int .i64 (T.getD k (0, 0)).2) := by rw [hwr]; exact d1
        clear hc htr d0 d1 hwr
        have htk : tOk (T.getD k (0, 0)) = true := by
          have hkT : k < T.length := by rw [HnT.out]; exact hlt
          refine List.all_eq_true.1 hT _ ?_
          simp [List.getD_eq_getElem?_getD, hkT]
        have htk' : 1 ≤ (T.getD k (0, 0)).2 ∧ (T.getD k (0, 0)).2 ≤ 3 := by
          have := of_decide_eq_true htk
          exact this.2
        by_cases he : (T.getD k (0, 0)).1 = s + 1
        · have HFi := Hid.mk' (first_at (T := T) (j := s + 1) (k := k) (by rw [HnT.out]; exact hlt) HA.out he)
          rw [he] at e4
          have t1 : ((s + 1 : Int) == s + 1) = true := by simp
          clear he htk
          generalize (T.getD k (0, 0)).2 = kd at *
          have hkd : kd = 1 ∨ kd = 2 ∨ kd = 3 := by omega
          clear htk'
          rcases hkd with rfl | rfl | rfl
          · go_wp2_with fail
            go_quiet (fail)
            go_wp2
            go_ret
            rw [HFi.out]
            exact ⟨rfl, HCw.out.on (below_drewN (Below.refl _ _) _), HFw.out.drewN _⟩
          · go_wp2_with fail
            go_quiet (fail)
            go_wp2
            go_ret
            rw [HFi.out]
            exact ⟨rfl, HCw.out.on (below_drewN (Below.refl _ _) _), HFw.out.drewN _⟩
          · go_wp2_with fail
            go_quiet (fail)
            have HD3 := Hid.mk' (HCw.out.on (below_drewN (Below.refl _ _) nq)).dark
            have HF3 : Hid (Fr [R] w ((wr.drewN nq).setCell ⟨R, 3, none⟩ (.bool true))) := (HFw.out.drewN nq).trans (Fr.of_set _ ⟨R, 3, none⟩ _) (fun q hq => .inl hq)
            go_wp2
            go_ret
            rw [HFi.out]
            exact ⟨rfl, HD3.out, HF3.out⟩
        · have HE := Hid.mk' he
          have t1 : (((T.getD k (0, 0)).1 : Int) == s + 1) = false := by rw [beq_eq_false_iff_ne]; exact he
          clear he htk htk'
          generalize hgg : (T.getD k (0, 0)).1 = ta at *
          have HG := Hid.mk' hgg
          clear hgg
          go_wp2_with fail
          go_quiet (fail)
          go_wp2
          go_roundw
          case rel =>
            refine ⟨k + 1, mq + nq, by omega, by go_num, by rw [HW.out, World.drewN_drewN], fun j hj => ?_⟩
            by_cases hjk : j = k
            · subst hjk; rw [HG.out]; exact HE.out
            · exact HA.out j (by omega)
          case measure => simp [intOf]; omega
      · have HFi := Hid.mk' (first_none (T := T) (j := s + 1) (fun i hi => HA.out i (by rw [HnT.out] at hi; omega)))
        clear htr hwr
        go_wp2
        go_ret
        rw [HFi.out]
        exact ⟨rfl, HCw.out, HFw.out⟩

set_option maxRecDepth 100000 in
set_option maxHeartbeats 400000 in
theorem rsize_any {w : World} {R : Nat} {v tv : Value} {L : List FR} {T : List (Int × Int)} {s : Int} {off : Bool} (h : RD w R v tv L T s off) (hr : M.rise (names L)) (t : ByteArray) :
    Calls Try.prog 41 #[.pointer (some ⟨R, 0, none⟩), .string t] w fun e w' => e = .returned (.tuple (if M.nam t = false then #[.int .i64 0, .int .i64 1] else if off = true then #[.int .i64 0, .int .i64 9] else if M.has (names L) t = true then #[.int .i64 ((L.getD (M.pos (names L) t) z0).seen.length : Nat), .int .i64 0] else #[.int .i64 0, .int .i64 2])) ∧ w' = w := by
  have HN := Hid.mk' (rname_any t w)
  have HFi := Hid.mk' (rfind_any h hr t)
  obtain ⟨c0, _, _, c3, _⟩ := h.cells
  cases hn : M.nam t with
  | false =>
    rw [hn] at HN
    clear h hn
    go_enter Try.func41, Try.ntmps41
    go_wp2_with fail
    refine HN.out.mono ?_
    rintro e w1 ⟨rfl, hw⟩
    obtain rfl := hw.symm
    clear hw
    go_wp2
    go_ret2
    exact ⟨rfl, rfl⟩
  | true =>
    rw [hn] at HN
    clear hn
    cases off with
    | true =>
      clear h
      go_enter Try.func41, Try.ntmps41
      go_wp2_with fail
      refine HN.out.mono ?_
      rintro e w1 ⟨rfl, hw⟩
      obtain rfl := hw.symm
      clear hw
      go_wp2
      go_ret2
      exact ⟨rfl, rfl⟩
    | false =>
      by_cases ht : M.has (names L) t = true
      · obtain ⟨hi, _⟩ := has_pos hr ht
        rw [names_length] at hi
        rw [if_pos ht]
        rw [show rfd (names L) t = (M.pos (names L) t : Int) by unfold rfd; rw [if_pos ht]] at HFi
        generalize M.pos (names L) t = i at *
        obtain ⟨a, c, rfl, _, _, hrow⟩ := h.files
        obtain ⟨g, rfl, hc⟩ := hrow (by omega)
        obtain ⟨_, _, d2, _⟩ := hc i hi
        obtain ⟨_, hnv⟩ := h.2.2.1 (L.getD i z0) (by simp [List.getD_eq_getElem?_getD, hi])
        obtain ⟨na, nc, hnl, _, _⟩ := hnv.slice
        rw [hnl] at d2
        have h16 := h.2.1.2
        generalize (L.getD i z0).seen.length = nl at *
        clear h hrow hc hnv hnl ht
        go_enter Try.func41, Try.ntmps41
        go_wp2_with fail
        refine HN.out.mono ?_
        rintro e w1 ⟨rfl, hw⟩
        obtain rfl := hw.symm
        clear hw
        go_wp2_with fail
        refine HFi.out.mono ?_
        rintro e w1 ⟨rfl, hw⟩
        obtain rfl := hw.symm
        clear hw
        go_wp2
        go_ret2
        exact ⟨rfl, rfl⟩
      · rw [if_neg ht]
        rw [show rfd (names L) t = -1 by unfold rfd; rw [if_neg ht]] at HFi
        clear h ht
        go_enter Try.func41, Try.ntmps41
        go_wp2_with fail
        refine HN.out.mono ?_
        rintro e w1 ⟨rfl, hw⟩
        obtain rfl := hw.symm
        clear hw
        go_wp2_with fail
        refine HFi.out.mono ?_
        rintro e w1 ⟨rfl, hw⟩
        obtain rfl := hw.symm
        clear hw
        go_wp2
        go_ret2
        exact ⟨rfl, rfl⟩
end Go.Proofs.Ythkjjebghfcgkaa
