/-
  What the laws share: tokens shown by a slice; num, EqTokens, CopyTokens, Tokens (written over), wakes; a list of texts as it is read off an argument.
-/
import Derived.Test.YtmepkmhfjgocgaaGreatDoorLk
import Derived.Test.YtmepkmhfjgocgaaGreatDoorRows
import Derived.Laws.StructEq
namespace Go.Proofs.YtmepkmhfjgocgaaGreatDoor
open Go.ChangeShapes Go.WideShapes Go.ChangeAt Go.RowKit Go.Deep

def z0 : L.Tok := (0, [], 0)
/-- A slice shows tokens. -/
def Shw (w : World) (v : Value) (T : List L.Tok) : Prop :=
  (∃ a cap, v = .slice a T.length cap ∧ (1 ≤ T.length → ∃ b o, a = some ⟨b, o, none⟩ ∧ ∀ j, j < T.length →
    w.cell? ⟨b, o + j * 3, none⟩ = some (.int .i64 (T.getD j z0).1) ∧ w.cell? ⟨b, o + j * 3 + 1, none⟩ = some (.string (S (T.getD j z0).2.1)) ∧ w.cell? ⟨b, o + j * 3 + 2, none⟩ = some (.int .i64 (T.getD j z0).2.2))) ∧ T.length ≤ 9223372036854775807

theorem cell_on {w wx : World} {a : Addr} {v : Value} (hb : Below w.heap.size w wx) (h : w.cell? a = some v) : wx.cell? a = some v := (hb.cell (World.block_lt_of_cell? _ _ h)).trans h
theorem Shw.below {w w' : World} {v : Value} {T : List L.Tok} (h : Shw w v T) (hb : Below w.heap.size w w') : Shw w' v T := by
  obtain ⟨⟨a, cap, rfl, hc⟩, hm⟩ := h
  refine ⟨⟨a, cap, rfl, fun h1 => ?_⟩, hm⟩
  obtain ⟨b, o, rfl, hj⟩ := hc h1
  exact ⟨b, o, rfl, fun j hlt => ⟨cell_on hb (hj j hlt).1, cell_on hb (hj j hlt).2.1, cell_on hb (hj j hlt).2.2⟩⟩

theorem TCs_at : ∀ (T : List L.Tok) (j : Nat), j < T.length → (TCs T)[j * 3]? = some (.int .i64 (T.getD j z0).1) ∧ (TCs T)[j * 3 + 1]? = some (.string (S (T.getD j z0).2.1)) ∧ (TCs T)[j * 3 + 2]? = some (.int .i64 (T.getD j z0).2.2)
  | [], j, h => absurd h (by simp)
  | x :: T, 0, _ => ⟨rfl, rfl, rfl⟩
  | x :: T, j + 1, h => by
    have e : TCs (x :: T) = TC x ++ TCs T := rfl
    have l3 : (TC x).length = 3 := rfl
    have := TCs_at T j (by simpa using h)
    rw [e, List.getElem?_append_right (by omega), List.getElem?_append_right (by omega), List.getElem?_append_right (by omega), l3, show (j + 1) * 3 - 3 = j * 3 by omega, show (j + 1) * 3 + 1 - 3 = j * 3 + 1 by omega, show (j + 1) * 3 + 2 - 3 = j * 3 + 2 by omega]
    exact this

theorem Tks.shw {w : World} {base : Nat} {v : Value} {T : List L.Tok} (h : Tks w base v T) (hm : T.length ≤ 9223372036854775807) : Shw w v T := by
  unfold Tks at h
  rcases h.2 with ⟨rfl, h0⟩ | ⟨g, cap, cur, rfl, _, hg, _⟩
  · exact ⟨⟨none, 0, by rw [h0], fun h1 => by omega⟩, hm⟩
  · refine ⟨⟨some ⟨g, 0, none⟩, cap, rfl, fun _ => ⟨g, 0, rfl, fun j hj => ?_⟩⟩, hm⟩
    obtain ⟨h1, h2, h3⟩ := TCs_at T j hj
    have ha : ∀ q, (⟨g, 0, none⟩ : Addr).add q = ⟨g, q, none⟩ := fun q => by unfold Addr.add; split <;> simp_all
    have k1 := h.cells (g := g) rfl _ _ h1
    have k2 := h.cells (g := g) rfl _ _ h2
    have k3 := h.cells (g := g) rfl _ _ h3
    rw [ha] at k1 k2 k3
    rw [Nat.zero_add]
    exact ⟨k1, k2, k3⟩
theorem Tks.below {w w' : World} {base : Nat} {v : Value} {T : List L.Tok} (h : Tks w base v T) (hb : Below w.heap.size w w') : Tks w' base v T := owns_keep h hb

theorem append_tok (w : World) (base : Nat) (v : Value) (n : Nat) (xs : List Value) (xv : Value) (m : Nat) (news : List Value) (hown : w.ownsRow base 126 3 v n xs) (hs : Src Tryz.prog 3 60 xv m news w)
    (hb : n + m ≤ 1000000000) (hbase : base ≤ w.heap.size) :
    ∃ v' w', (Builtin.append_ #[60, 60] 60 #[v, xv]).run Tryz.prog w = .ok v' w' ∧ w'.ownsRow base 126 3 v' (n + m) (xs ++ news) ∧ w.grownBy w' v.ownBlock ∧ (v'.ownBlock = v.ownBlock ∨ v'.ownBlock = some w.heap.size) := by
  obtain ⟨i0, hi, hz0, hz1, hz2⟩ := info_parts Tryz.info126
  exact run_append_src w base 60 60 60 126 i0 _ 3 32 Tryz.underlying60 hi hz0 hz1 hz2 rfl v n xs hown xv m news hs (by unfold maxLen; omega) (by omega) hbase

theorem take_getD (T : List L.Tok) (k : Nat) (h : k < T.length) : T.take (k + 1) = T.take k ++ [T.getD k z0] := by
  rw [List.take_succ_eq_append_getElem h, List.getD_eq_getElem?_getD, List.getElem?_eq_getElem h]
  rfl

theorem shw_two (w : World) (t u : L.Tok) : Shw (w.alloc (.cells #[.int .i64 t.1, .string (S t.2.1), .int .i64 t.2.2, .int .i64 u.1, .string (S u.2.1), .int .i64 u.2.2] 126)) (.slice (some ⟨w.heap.size, 0, none⟩) 2 2) [t, u] := by
  refine ⟨⟨_, 2, rfl, fun _ => ⟨w.heap.size, 0, rfl, fun j hj => ?_⟩⟩, by simp⟩
  match j, hj with
  | 0, _ => exact ⟨by simp, by simp, by simp⟩
  | 1, _ => exact ⟨by simp, by simp, by simp⟩
theorem shw_one (w : World) (t : L.Tok) : Shw (w.alloc (.cells #[.int .i64 t.1, .string (S t.2.1), .int .i64 t.2.2] 126)) (.slice (some ⟨w.heap.size, 0, none⟩) 1 1) [t] := by
  refine ⟨⟨_, 1, rfl, fun _ => ⟨w.heap.size, 0, rfl, fun j hj => ?_⟩⟩, by simp⟩
  match j, hj with
  | 0, _ => exact ⟨by simp, by simp, by simp⟩

theorem tok_wakes : L.tokens [65, 32, 39, 98, 39] = ([(1, [97], 0), (3, [98], 0)], 0) := by decide +kernel

theorem own : ownKnob Tryz.prog.godebug = none := by kernel_rfl
theorem laidOut : laidOutB Tryz.prog = true := by kernel_rfl
theorem cw9 : Tryz.prog.cellsOf 9 = 1 := by kernel_rfl

theorem weights_all {H : Type} {P : Program} {e : TypeId} {ds : List (DataW H)} {d : DataW H} (hd : d ∈ ds) : ∀ n ∈ d.weights P e, n ∈ DataW.weightsAll P e ds := by
  induction ds with
  | nil => cases hd
  | cons x r ih =>
    intro n hn
    simp only [DataW.weightsAll, List.mem_append]
    rcases List.mem_cons.1 hd with rfl | h
    · exact .inl hn
    · exact .inr (ih h n hn)

theorem text_weight {H : Type} {es sp0 : List (DataW H)} {bs : List UInt8} (hz : (DataW.weightsEach Tryz.prog [22] [.slice es sp0]).all (· ≤ reachBytes) = true)
    (hm : .lit (.string bs) ∈ es) : bs.length ≤ 140737488351232 := by
  have h1 : bs.length ∈ (DataW.lit (H := H) (.string bs)).weights Tryz.prog 9 := by simp [DataW.weights]
  have h2 := weights_all hm _ h1
  have h3 : bs.length ∈ DataW.weightsEach Tryz.prog [22] [.slice es sp0] := by
    simp only [DataW.weightsEach, DataW.weights, Tryz.underlying22, List.append_nil, List.mem_cons, List.mem_append]
    exact .inr (.inl h2)
  have h4 : bs.length ≤ reachBytes := of_decide_eq_true (List.all_eq_true.1 hz _ h3)
  unfold reachBytes at h4
  omega

/-- What a law is handed: a list of n texts. -/
def Asks (w : World) (v : Value) (n : Nat) (A : Nat → ByteArray) : Prop :=
  (∃ a cap, v = .slice a n cap ∧ (1 ≤ n → ∃ b o, a = some ⟨b, o, none⟩ ∧ ∀ i, i < n → w.cell? ⟨b, o + i, none⟩ = some (.string (A i)) ∧ (A i).size ≤ 140737488351232)) ∧ n ≤ 9223372036854775807

theorem asks_of {H : Type} {enc : TypeId × Value → H} {W : World} {spare : Nat → Bool} {held : Bool} {v : Value} {d : DataW H} {p : List MemPlace} (hv : ∃ a n c, v = .slice a n c)
    (h0 : DataW.Trod enc Tryz.prog W 0 spare held 22 v d p) (hz : (DataW.weightsEach Tryz.prog [22] [d]).all (· ≤ reachBytes) = true) : ∃ (n : Nat) (A : Nat → ByteArray), Asks W v n A := by
  obtain ⟨a0, len0, cap0, rfl⟩ := hv
  obtain ⟨fuel, h⟩ := h0
  rcases open_slice Tryz.underlying22 h with ⟨hcs, _⟩ | ⟨a, len, cap, m, n, D, Pl, hcs, _, hl, hm, hmm, hxx, hx⟩
  · simp [Value.cells] at hcs
    obtain ⟨rfl, rfl, rfl⟩ := hcs
    exact ⟨0, fun _ => ⟨#[]⟩, ⟨none, 0, rfl, fun h => absurd h (by omega)⟩, by omega⟩
  · simp [Value.cells] at hcs
    obtain ⟨rfl, rfl, rfl⟩ := hcs
    have hm' : len0 ≤ m := by rw [hmm]; split <;> omega
    have e0 : ∀ i, i < len0 → ∃ q : ByteArray, q.size ≤ 140737488351232 ∧ ∀ j, j < 1 → W.cell? ((a.add (i * 1)).add j) = [Value.string q][j]? := by
      intro i hi
      obtain ⟨cs', h1, h2⟩ := hx i (by omega)
      rw [cw9] at h1
      obtain ⟨_, _, hcell⟩ := World.cells?_some h1
      obtain ⟨s, rfl, hD, _⟩ := DataW.trod_string Tryz.underlying9 h2
      refine ⟨s, ?_, hcell⟩
      have hd : d = _ := (Prod.mk.inj hxx).1
      rw [hd] at hz
      have := text_weight hz (bs := s.data.toList) (List.mem_map.2 ⟨i, List.mem_range.2 hi, (Prod.mk.inj hD).1⟩)
      simpa using this
    obtain ⟨Q, hQ⟩ := choose_lt e0
    refine ⟨len0, Q, ⟨some a, _, rfl, fun h1 => ?_⟩, by unfold maxLen at hm; omega⟩
    have h0 := (hQ 0 (by omega)).2 0 (by omega)
    simp at h0
    have hs : a.spot = none := by simpa [Addr.add] using World.cell?_spot h0
    obtain ⟨b, o, e⟩ := a
    simp only at hs
    subst hs
    refine ⟨b, o, rfl, fun i hi => ?_⟩
    refine ⟨?_, (hQ i hi).1⟩
    have := (hQ i hi).2 0 (by omega)
    have e1 : ((⟨b, o, none⟩ : Addr).add (i * 1)).add 0 = ⟨b, o + i, none⟩ := by
      unfold Addr.add
      by_cases hi0 : i = 0 <;> simp [hi0]
    rw [e1] at this
    exact this
end Go.Proofs.YtmepkmhfjgocgaaGreatDoor
