/-
  A statement as it lies: its fields, one by one.
-/
import Derived.Test.YtmepkmhfjgocgaaGreatDoorMg5
namespace Go.Proofs.YtmepkmhfjgocgaaGreatDoor
open Go.ChangeShapes Go.WideShapes Go.ChangeAt Go.RowKit Go.Deep

structure Z.St where
  kind : Int
  name : Z.W
  table : Z.W
  uniq : Bool
  cols : List Z.Co
  names : List Z.W
  rows : List (List Z.Ex)
  sets : List (Z.W × Z.Ex)
  frm : List Z.W
  star : Bool
  out : List Z.Ex
  whr : List Z.Ex
  ord : List (Z.Ex × Bool)
def Z.st0 : Z.St := ⟨0, [], [], false, [], [], [], [], [], false, [], [], []⟩
/-- A list in a cell; where there is none the cell is as it began. -/
def ShN {α : Type} (Sh : Shows α) (T : TypeId) (sz : Nat) (w : World) (ok : Nat → Prop) (l : List α) (v : Value) : Prop := ShRow Sh T sz w ok l [v] ∧ (l = [] → v = .slice none 0 0)
theorem ShN.none {α : Type} (Sh : Shows α) (T : TypeId) (sz : Nat) (w : World) (ok : Nat → Prop) : ShN Sh T sz w ok [] (.slice none 0 0) := ⟨⟨_, [], rfl, World.ownsRow_nil _ _ _ _, fun b hb => by simp [Value.ownBlock] at hb, rfl⟩, fun _ => rfl⟩
theorem ShN.on {α : Type} {Sh : Shows α} {T : TypeId} {sz : Nat} (h : ShOk Sh sz) {w w' : World} {ok ok' : Nat → Prop} (hk : ∀ b, ok b → ok' b ∧ w'.heap[b]? = w.heap[b]?) {l : List α} {v : Value} (hn : ShN Sh T sz w ok l v) : ShN Sh T sz w' ok' l v := ⟨(ShRow.ok h T).on hk _ _ hn.1, hn.2⟩

def ShSt (w : World) (ok : Nat → Prop) (st : Z.St) (K : List Value) : Prop := ∃ v4 v5 v6 v7 v8 v10 v11 v12, K = [.int .i64 st.kind, .string (S st.name), .string (S st.table), .bool st.uniq, v4, v5, v6, v7, v8, .bool st.star, v10, v11, v12] ∧ ShN ShCol 81 3 w ok st.cols v4 ∧ ShN ShStr 9 1 w ok st.names v5 ∧ ShN (ShRow ShE 56 7) 26 1 w ok st.rows v6 ∧ ShN ShSet 85 8 w ok st.sets v7 ∧ ShN ShStr 9 1 w ok st.frm v8 ∧ ShN ShE 56 7 w ok st.out v10 ∧ ShN ShE 56 7 w ok st.whr v11 ∧ ShN ShKey 87 8 w ok st.ord v12
theorem ShSt.on {w w' : World} {ok ok' : Nat → Prop} (hk : ∀ b, ok b → ok' b ∧ w'.heap[b]? = w.heap[b]?) {st : Z.St} {K : List Value} (h : ShSt w ok st K) : ShSt w' ok' st K := by
  obtain ⟨v4, v5, v6, v7, v8, v10, v11, v12, hK, h4, h5, h6, h7, h8, h10, h11, h12⟩ := h
  exact ⟨v4, v5, v6, v7, v8, v10, v11, v12, hK, h4.on ShCol.ok hk, h5.on ShStr.ok hk, h6.on (ShRow.ok ShE.ok _) hk, h7.on ShSet.ok hk, h8.on ShStr.ok hk, h10.on ShE.ok hk, h11.on ShE.ok hk, h12.on ShKey.ok hk⟩

/-- The statement at block s, the parser at block p, since w0. -/
def Sta (w0 w : World) (p : Nat) (R : List L.Tok) (m : Int) (s : Nat) (cur : List Value) (st : Z.St) : Prop :=
  (p < w0.heap.size ∧ s < w0.heap.size) ∧ ∃ K, PE w0 w p R 0 m s 0 29 cur K ∧ ShSt w (fun b => w0.heap.size ≤ b ∧ b < w.heap.size) st K
theorem Sta.ps {w0 w : World} {p : Nat} {R : List L.Tok} {m : Int} {s : Nat} {cur : List Value} {st : Z.St} (h : Sta w0 w p R m s cur st) : PS w p R 0 m := by
  obtain ⟨_, K, hP, _⟩ := h
  exact hP.1
theorem Sta.frame {w0 w : World} {p : Nat} {R : List L.Tok} {m : Int} {s : Nat} {cur : List Value} {st : Z.St} (h : Sta w0 w p R m s cur st) : Fr [p, s] w0 w := by
  obtain ⟨_, K, hP, _⟩ := h
  exact hP.2.2.1
theorem Sta.lt {w0 w : World} {p : Nat} {R : List L.Tok} {m : Int} {s : Nat} {cur : List Value} {st : Z.St} (h : Sta w0 w p R m s cur st) : s < w.heap.size ∧ (∀ j, w.frozen? ⟨s, j, none⟩ = false) := by
  obtain ⟨_, K, hP, _⟩ := h
  exact ⟨hP.2.1.lt, hP.2.1.fz⟩
theorem Sta.take {w0 w w' : World} {p : Nat} {R R' : List L.Tok} {m m' : Int} {s : Nat} {cur : List Value} {st : Z.St} (h : Sta w0 w p R m s cur st) (hf : Fr [p] w w') (hp : PS w' p R' 0 m') : Sta w0 w' p R' m' s cur st := by
  obtain ⟨⟨h1, h2⟩, K, hP, hS⟩ := h
  exact ⟨⟨h1, h2⟩, K, hP.other hp hf, hS.on fun b hb => ⟨⟨hb.1, Nat.lt_of_lt_of_le hb.2 hf.2.1⟩, hf.2.2 b hb.2 (by simp; omega)⟩⟩
theorem Sta.c_kind {w0 w : World} {p : Nat} {R : List L.Tok} {m : Int} {s : Nat} {cur : List Value} {st : Z.St} (h : Sta w0 w p R m s cur st) : w.cell? ⟨s, 0, none⟩ = some (.int .i64 st.kind) := by
  obtain ⟨⟨h1, h2⟩, K, hP, v4, v5, v6, v7, v8, v10, v11, v12, rfl, h4, h5, h6, h7, h8, h10, h11, h12⟩ := h
  have := hP.2.1.cell (j := 0) rfl
  rwa [Nat.zero_add] at this
theorem Sta.set_kind {w0 w : World} {p : Nat} {R : List L.Tok} {m : Int} {s : Nat} {cur : List Value} {st : Z.St} (h : Sta w0 w p R m s cur st) (x : Int) : Sta w0 (w.setCell ⟨s, 0, none⟩ (.int .i64 x)) p R m s cur { st with kind := x } := by
  obtain ⟨⟨h1, h2⟩, K, hP, v4, v5, v6, v7, v8, v10, v11, v12, rfl, h4, h5, h6, h7, h8, h10, h11, h12⟩ := h
  have h3 := hP.set 0 (.int .i64 x)
  simp only [Nat.zero_add] at h3
  have hf := Fr.of_set w ⟨s, 0, none⟩ (.int .i64 x)
  have hk : ∀ b, (w0.heap.size ≤ b ∧ b < w.heap.size) → (w0.heap.size ≤ b ∧ b < (w.setCell ⟨s, 0, none⟩ (.int .i64 x)).heap.size) ∧ (w.setCell ⟨s, 0, none⟩ (.int .i64 x)).heap[b]? = w.heap[b]? := fun b hb => ⟨⟨hb.1, by simpa using hb.2⟩, hf.2.2 b hb.2 (by simp; omega)⟩
  exact ⟨⟨h1, h2⟩, _, h3, v4, v5, v6, v7, v8, v10, v11, v12, rfl, h4.on ShCol.ok hk, h5.on ShStr.ok hk, h6.on (ShRow.ok ShE.ok _) hk, h7.on ShSet.ok hk, h8.on ShStr.ok hk, h10.on ShE.ok hk, h11.on ShE.ok hk, h12.on ShKey.ok hk⟩
theorem Sta.c_name {w0 w : World} {p : Nat} {R : List L.Tok} {m : Int} {s : Nat} {cur : List Value} {st : Z.St} (h : Sta w0 w p R m s cur st) : w.cell? ⟨s, 1, none⟩ = some (.string (S st.name)) := by
  obtain ⟨⟨h1, h2⟩, K, hP, v4, v5, v6, v7, v8, v10, v11, v12, rfl, h4, h5, h6, h7, h8, h10, h11, h12⟩ := h
  have := hP.2.1.cell (j := 1) rfl
  rwa [Nat.zero_add] at this
theorem Sta.at_name {w0 w : World} {p : Nat} {R : List L.Tok} {m : Int} {s : Nat} {cur : List Value} {st : Z.St} (h : Sta w0 w p R m s cur st) : ∃ cur', EL w s 1 29 cur' [.string (S st.name)] ∧ ∀ (w' : World) (R' : List L.Tok) (x : Z.W), PS w' p R' 0 m → EL w' s 1 29 cur' [.string (S x)] → Fr [p, s] w w' → Sta w0 w' p R' m s cur { st with name := x } := by
  obtain ⟨⟨h1, h2⟩, K, hP, v4, v5, v6, v7, v8, v10, v11, v12, rfl, h4, h5, h6, h7, h8, h10, h11, h12⟩ := h
  have hE := hP.2.1.sub 1 [.string (S st.name)] (by exact of_decide_eq_true rfl) rfl
  rw [Nat.zero_add] at hE
  refine ⟨_, hE, fun w' R' x hp he hf => ?_⟩
  have h3 := hP.part (j := 1) (M := [.string (S x)]) (by exact of_decide_eq_true rfl) hp (by rw [Nat.zero_add]; exact he) hf
  have hk : ∀ b, (w0.heap.size ≤ b ∧ b < w.heap.size) → (w0.heap.size ≤ b ∧ b < w'.heap.size) ∧ w'.heap[b]? = w.heap[b]? := fun b hb => ⟨⟨hb.1, Nat.lt_of_lt_of_le hb.2 hf.2.1⟩, hf.2.2 b hb.2 (by simp; omega)⟩
  exact ⟨⟨h1, h2⟩, _, h3, v4, v5, v6, v7, v8, v10, v11, v12, rfl, h4.on ShCol.ok hk, h5.on ShStr.ok hk, h6.on (ShRow.ok ShE.ok _) hk, h7.on ShSet.ok hk, h8.on ShStr.ok hk, h10.on ShE.ok hk, h11.on ShE.ok hk, h12.on ShKey.ok hk⟩
theorem Sta.c_table {w0 w : World} {p : Nat} {R : List L.Tok} {m : Int} {s : Nat} {cur : List Value} {st : Z.St} (h : Sta w0 w p R m s cur st) : w.cell? ⟨s, 2, none⟩ = some (.string (S st.table)) := by
  obtain ⟨⟨h1, h2⟩, K, hP, v4, v5, v6, v7, v8, v10, v11, v12, rfl, h4, h5, h6, h7, h8, h10, h11, h12⟩ := h
  have := hP.2.1.cell (j := 2) rfl
  rwa [Nat.zero_add] at this
theorem Sta.at_table {w0 w : World} {p : Nat} {R : List L.Tok} {m : Int} {s : Nat} {cur : List Value} {st : Z.St} (h : Sta w0 w p R m s cur st) : ∃ cur', EL w s 2 29 cur' [.string (S st.table)] ∧ ∀ (w' : World) (R' : List L.Tok) (x : Z.W), PS w' p R' 0 m → EL w' s 2 29 cur' [.string (S x)] → Fr [p, s] w w' → Sta w0 w' p R' m s cur { st with table := x } := by
  obtain ⟨⟨h1, h2⟩, K, hP, v4, v5, v6, v7, v8, v10, v11, v12, rfl, h4, h5, h6, h7, h8, h10, h11, h12⟩ := h
  have hE := hP.2.1.sub 2 [.string (S st.table)] (by exact of_decide_eq_true rfl) rfl
  rw [Nat.zero_add] at hE
  refine ⟨_, hE, fun w' R' x hp he hf => ?_⟩
  have h3 := hP.part (j := 2) (M := [.string (S x)]) (by exact of_decide_eq_true rfl) hp (by rw [Nat.zero_add]; exact he) hf
  have hk : ∀ b, (w0.heap.size ≤ b ∧ b < w.heap.size) → (w0.heap.size ≤ b ∧ b < w'.heap.size) ∧ w'.heap[b]? = w.heap[b]? := fun b hb => ⟨⟨hb.1, Nat.lt_of_lt_of_le hb.2 hf.2.1⟩, hf.2.2 b hb.2 (by simp; omega)⟩
  exact ⟨⟨h1, h2⟩, _, h3, v4, v5, v6, v7, v8, v10, v11, v12, rfl, h4.on ShCol.ok hk, h5.on ShStr.ok hk, h6.on (ShRow.ok ShE.ok _) hk, h7.on ShSet.ok hk, h8.on ShStr.ok hk, h10.on ShE.ok hk, h11.on ShE.ok hk, h12.on ShKey.ok hk⟩
theorem Sta.c_uniq {w0 w : World} {p : Nat} {R : List L.Tok} {m : Int} {s : Nat} {cur : List Value} {st : Z.St} (h : Sta w0 w p R m s cur st) : w.cell? ⟨s, 3, none⟩ = some (.bool st.uniq) := by
  obtain ⟨⟨h1, h2⟩, K, hP, v4, v5, v6, v7, v8, v10, v11, v12, rfl, h4, h5, h6, h7, h8, h10, h11, h12⟩ := h
  have := hP.2.1.cell (j := 3) rfl
  rwa [Nat.zero_add] at this
theorem Sta.set_uniq {w0 w : World} {p : Nat} {R : List L.Tok} {m : Int} {s : Nat} {cur : List Value} {st : Z.St} (h : Sta w0 w p R m s cur st) (x : Bool) : Sta w0 (w.setCell ⟨s, 3, none⟩ (.bool x)) p R m s cur { st with uniq := x } := by
  obtain ⟨⟨h1, h2⟩, K, hP, v4, v5, v6, v7, v8, v10, v11, v12, rfl, h4, h5, h6, h7, h8, h10, h11, h12⟩ := h
  have h3 := hP.set 3 (.bool x)
  simp only [Nat.zero_add] at h3
  have hf := Fr.of_set w ⟨s, 3, none⟩ (.bool x)
  have hk : ∀ b, (w0.heap.size ≤ b ∧ b < w.heap.size) → (w0.heap.size ≤ b ∧ b < (w.setCell ⟨s, 3, none⟩ (.bool x)).heap.size) ∧ (w.setCell ⟨s, 3, none⟩ (.bool x)).heap[b]? = w.heap[b]? := fun b hb => ⟨⟨hb.1, by simpa using hb.2⟩, hf.2.2 b hb.2 (by simp; omega)⟩
  exact ⟨⟨h1, h2⟩, _, h3, v4, v5, v6, v7, v8, v10, v11, v12, rfl, h4.on ShCol.ok hk, h5.on ShStr.ok hk, h6.on (ShRow.ok ShE.ok _) hk, h7.on ShSet.ok hk, h8.on ShStr.ok hk, h10.on ShE.ok hk, h11.on ShE.ok hk, h12.on ShKey.ok hk⟩
theorem Sta.c_cols {w0 w : World} {p : Nat} {R : List L.Tok} {m : Int} {s : Nat} {cur : List Value} {st : Z.St} (h : Sta w0 w p R m s cur st) : ∃ v, w.cell? ⟨s, 4, none⟩ = some v ∧ ShN ShCol 81 3 w (fun b => w0.heap.size ≤ b ∧ b < w.heap.size) st.cols v := by
  obtain ⟨⟨h1, h2⟩, K, hP, v4, v5, v6, v7, v8, v10, v11, v12, rfl, h4, h5, h6, h7, h8, h10, h11, h12⟩ := h
  have := hP.2.1.cell (j := 4) rfl
  rw [Nat.zero_add] at this
  exact ⟨_, this, h4⟩
theorem Sta.at_cols {w0 w : World} {p : Nat} {R : List L.Tok} {m : Int} {s : Nat} {cur : List Value} {st : Z.St} (h : Sta w0 w p R m s cur st) (hl : st.cols = []) : ∃ cur', EL w s 4 29 cur' [.slice none 0 0] ∧ ∀ (w' : World) (R' : List L.Tok) (m' : Int) (x : List Z.Co) (cs : List Value), PS w' p R' 0 m' → EL w' s 4 29 cur' cs → ShRow ShCol 81 3 w' (fun b => w.heap.size ≤ b ∧ b < w'.heap.size) x cs → x ≠ [] → Fr [p, s] w w' → Sta w0 w' p R' m' s cur { st with cols := x } := by
  obtain ⟨⟨h1, h2⟩, K, hP, v4, v5, v6, v7, v8, v10, v11, v12, rfl, h4, h5, h6, h7, h8, h10, h11, h12⟩ := h
  obtain rfl := h4.2 hl
  have hE := hP.2.1.sub 4 [.slice none 0 0] (by exact of_decide_eq_true rfl) rfl
  rw [Nat.zero_add] at hE
  refine ⟨_, hE, fun w' R' m' x cs hp he hs hx hf => ?_⟩
  have hc := (ShRow.ok ShCol.ok 81).len hs
  obtain ⟨v, rfl⟩ := form1 hc
  have h3 := hP.part (j := 4) (M := [v]) (by exact of_decide_eq_true rfl) hp (by rw [Nat.zero_add]; exact he) hf
  have hw := hP.2.2.1.2.1
  have hk : ∀ b, (w0.heap.size ≤ b ∧ b < w.heap.size) → (w0.heap.size ≤ b ∧ b < w'.heap.size) ∧ w'.heap[b]? = w.heap[b]? := fun b hb => ⟨⟨hb.1, Nat.lt_of_lt_of_le hb.2 hf.2.1⟩, hf.2.2 b hb.2 (by simp; omega)⟩
  have hn : ShN ShCol 81 3 w' (fun b => w0.heap.size ≤ b ∧ b < w'.heap.size) x v := ⟨(ShRow.ok ShCol.ok 81).on (fun b hb => ⟨⟨Nat.le_trans hw hb.1, hb.2⟩, rfl⟩) _ _ hs, fun e => absurd e hx⟩
  exact ⟨⟨h1, h2⟩, _, h3, v, v5, v6, v7, v8, v10, v11, v12, rfl, hn, h5.on ShStr.ok hk, h6.on (ShRow.ok ShE.ok _) hk, h7.on ShSet.ok hk, h8.on ShStr.ok hk, h10.on ShE.ok hk, h11.on ShE.ok hk, h12.on ShKey.ok hk⟩
theorem Sta.c_names {w0 w : World} {p : Nat} {R : List L.Tok} {m : Int} {s : Nat} {cur : List Value} {st : Z.St} (h : Sta w0 w p R m s cur st) : ∃ v, w.cell? ⟨s, 5, none⟩ = some v ∧ ShN ShStr 9 1 w (fun b => w0.heap.size ≤ b ∧ b < w.heap.size) st.names v := by
  obtain ⟨⟨h1, h2⟩, K, hP, v4, v5, v6, v7, v8, v10, v11, v12, rfl, h4, h5, h6, h7, h8, h10, h11, h12⟩ := h
  have := hP.2.1.cell (j := 5) rfl
  rw [Nat.zero_add] at this
  exact ⟨_, this, h5⟩
theorem Sta.at_names {w0 w : World} {p : Nat} {R : List L.Tok} {m : Int} {s : Nat} {cur : List Value} {st : Z.St} (h : Sta w0 w p R m s cur st) (hl : st.names = []) : ∃ cur', EL w s 5 29 cur' [.slice none 0 0] ∧ ∀ (w' : World) (R' : List L.Tok) (m' : Int) (x : List Z.W) (cs : List Value), PS w' p R' 0 m' → EL w' s 5 29 cur' cs → ShRow ShStr 9 1 w' (fun b => w.heap.size ≤ b ∧ b < w'.heap.size) x cs → x ≠ [] → Fr [p, s] w w' → Sta w0 w' p R' m' s cur { st with names := x } := by
  obtain ⟨⟨h1, h2⟩, K, hP, v4, v5, v6, v7, v8, v10, v11, v12, rfl, h4, h5, h6, h7, h8, h10, h11, h12⟩ := h
  obtain rfl := h5.2 hl
  have hE := hP.2.1.sub 5 [.slice none 0 0] (by exact of_decide_eq_true rfl) rfl
  rw [Nat.zero_add] at hE
  refine ⟨_, hE, fun w' R' m' x cs hp he hs hx hf => ?_⟩
  have hc := (ShRow.ok ShStr.ok 9).len hs
  obtain ⟨v, rfl⟩ := form1 hc
  have h3 := hP.part (j := 5) (M := [v]) (by exact of_decide_eq_true rfl) hp (by rw [Nat.zero_add]; exact he) hf
  have hw := hP.2.2.1.2.1
  have hk : ∀ b, (w0.heap.size ≤ b ∧ b < w.heap.size) → (w0.heap.size ≤ b ∧ b < w'.heap.size) ∧ w'.heap[b]? = w.heap[b]? := fun b hb => ⟨⟨hb.1, Nat.lt_of_lt_of_le hb.2 hf.2.1⟩, hf.2.2 b hb.2 (by simp; omega)⟩
  have hn : ShN ShStr 9 1 w' (fun b => w0.heap.size ≤ b ∧ b < w'.heap.size) x v := ⟨(ShRow.ok ShStr.ok 9).on (fun b hb => ⟨⟨Nat.le_trans hw hb.1, hb.2⟩, rfl⟩) _ _ hs, fun e => absurd e hx⟩
  exact ⟨⟨h1, h2⟩, _, h3, v4, v, v6, v7, v8, v10, v11, v12, rfl, h4.on ShCol.ok hk, hn, h6.on (ShRow.ok ShE.ok _) hk, h7.on ShSet.ok hk, h8.on ShStr.ok hk, h10.on ShE.ok hk, h11.on ShE.ok hk, h12.on ShKey.ok hk⟩
theorem Sta.c_rows {w0 w : World} {p : Nat} {R : List L.Tok} {m : Int} {s : Nat} {cur : List Value} {st : Z.St} (h : Sta w0 w p R m s cur st) : ∃ v, w.cell? ⟨s, 6, none⟩ = some v ∧ ShN (ShRow ShE 56 7) 26 1 w (fun b => w0.heap.size ≤ b ∧ b < w.heap.size) st.rows v := by
  obtain ⟨⟨h1, h2⟩, K, hP, v4, v5, v6, v7, v8, v10, v11, v12, rfl, h4, h5, h6, h7, h8, h10, h11, h12⟩ := h
  have := hP.2.1.cell (j := 6) rfl
  rw [Nat.zero_add] at this
  exact ⟨_, this, h6⟩
theorem Sta.at_rows {w0 w : World} {p : Nat} {R : List L.Tok} {m : Int} {s : Nat} {cur : List Value} {st : Z.St} (h : Sta w0 w p R m s cur st) (hl : st.rows = []) : ∃ cur', EL w s 6 29 cur' [.slice none 0 0] ∧ ∀ (w' : World) (R' : List L.Tok) (m' : Int) (x : List (List Z.Ex)) (cs : List Value), PS w' p R' 0 m' → EL w' s 6 29 cur' cs → ShRow (ShRow ShE 56 7) 26 1 w' (fun b => w.heap.size ≤ b ∧ b < w'.heap.size) x cs → x ≠ [] → Fr [p, s] w w' → Sta w0 w' p R' m' s cur { st with rows := x } := by
  obtain ⟨⟨h1, h2⟩, K, hP, v4, v5, v6, v7, v8, v10, v11, v12, rfl, h4, h5, h6, h7, h8, h10, h11, h12⟩ := h
  obtain rfl := h6.2 hl
  have hE := hP.2.1.sub 6 [.slice none 0 0] (by exact of_decide_eq_true rfl) rfl
  rw [Nat.zero_add] at hE
  refine ⟨_, hE, fun w' R' m' x cs hp he hs hx hf => ?_⟩
  have hc := (ShRow.ok (ShRow.ok ShE.ok _) 26).len hs
  obtain ⟨v, rfl⟩ := form1 hc
  have h3 := hP.part (j := 6) (M := [v]) (by exact of_decide_eq_true rfl) hp (by rw [Nat.zero_add]; exact he) hf
  have hw := hP.2.2.1.2.1
  have hk : ∀ b, (w0.heap.size ≤ b ∧ b < w.heap.size) → (w0.heap.size ≤ b ∧ b < w'.heap.size) ∧ w'.heap[b]? = w.heap[b]? := fun b hb => ⟨⟨hb.1, Nat.lt_of_lt_of_le hb.2 hf.2.1⟩, hf.2.2 b hb.2 (by simp; omega)⟩
  have hn : ShN (ShRow ShE 56 7) 26 1 w' (fun b => w0.heap.size ≤ b ∧ b < w'.heap.size) x v := ⟨(ShRow.ok (ShRow.ok ShE.ok _) 26).on (fun b hb => ⟨⟨Nat.le_trans hw hb.1, hb.2⟩, rfl⟩) _ _ hs, fun e => absurd e hx⟩
  exact ⟨⟨h1, h2⟩, _, h3, v4, v5, v, v7, v8, v10, v11, v12, rfl, h4.on ShCol.ok hk, h5.on ShStr.ok hk, hn, h7.on ShSet.ok hk, h8.on ShStr.ok hk, h10.on ShE.ok hk, h11.on ShE.ok hk, h12.on ShKey.ok hk⟩
theorem Sta.c_sets {w0 w : World} {p : Nat} {R : List L.Tok} {m : Int} {s : Nat} {cur : List Value} {st : Z.St} (h : Sta w0 w p R m s cur st) : ∃ v, w.cell? ⟨s, 7, none⟩ = some v ∧ ShN ShSet 85 8 w (fun b => w0.heap.size ≤ b ∧ b < w.heap.size) st.sets v := by
  obtain ⟨⟨h1, h2⟩, K, hP, v4, v5, v6, v7, v8, v10, v11, v12, rfl, h4, h5, h6, h7, h8, h10, h11, h12⟩ := h
  have := hP.2.1.cell (j := 7) rfl
  rw [Nat.zero_add] at this
  exact ⟨_, this, h7⟩
theorem Sta.at_sets {w0 w : World} {p : Nat} {R : List L.Tok} {m : Int} {s : Nat} {cur : List Value} {st : Z.St} (h : Sta w0 w p R m s cur st) (hl : st.sets = []) : ∃ cur', EL w s 7 29 cur' [.slice none 0 0] ∧ ∀ (w' : World) (R' : List L.Tok) (m' : Int) (x : List (Z.W × Z.Ex)) (cs : List Value), PS w' p R' 0 m' → EL w' s 7 29 cur' cs → ShRow ShSet 85 8 w' (fun b => w.heap.size ≤ b ∧ b < w'.heap.size) x cs → x ≠ [] → Fr [p, s] w w' → Sta w0 w' p R' m' s cur { st with sets := x } := by
  obtain ⟨⟨h1, h2⟩, K, hP, v4, v5, v6, v7, v8, v10, v11, v12, rfl, h4, h5, h6, h7, h8, h10, h11, h12⟩ := h
  obtain rfl := h7.2 hl
  have hE := hP.2.1.sub 7 [.slice none 0 0] (by exact of_decide_eq_true rfl) rfl
  rw [Nat.zero_add] at hE
  refine ⟨_, hE, fun w' R' m' x cs hp he hs hx hf => ?_⟩
  have hc := (ShRow.ok ShSet.ok 85).len hs
  obtain ⟨v, rfl⟩ := form1 hc
  have h3 := hP.part (j := 7) (M := [v]) (by exact of_decide_eq_true rfl) hp (by rw [Nat.zero_add]; exact he) hf
  have hw := hP.2.2.1.2.1
  have hk : ∀ b, (w0.heap.size ≤ b ∧ b < w.heap.size) → (w0.heap.size ≤ b ∧ b < w'.heap.size) ∧ w'.heap[b]? = w.heap[b]? := fun b hb => ⟨⟨hb.1, Nat.lt_of_lt_of_le hb.2 hf.2.1⟩, hf.2.2 b hb.2 (by simp; omega)⟩
  have hn : ShN ShSet 85 8 w' (fun b => w0.heap.size ≤ b ∧ b < w'.heap.size) x v := ⟨(ShRow.ok ShSet.ok 85).on (fun b hb => ⟨⟨Nat.le_trans hw hb.1, hb.2⟩, rfl⟩) _ _ hs, fun e => absurd e hx⟩
  exact ⟨⟨h1, h2⟩, _, h3, v4, v5, v6, v, v8, v10, v11, v12, rfl, h4.on ShCol.ok hk, h5.on ShStr.ok hk, h6.on (ShRow.ok ShE.ok _) hk, hn, h8.on ShStr.ok hk, h10.on ShE.ok hk, h11.on ShE.ok hk, h12.on ShKey.ok hk⟩
theorem Sta.c_frm {w0 w : World} {p : Nat} {R : List L.Tok} {m : Int} {s : Nat} {cur : List Value} {st : Z.St} (h : Sta w0 w p R m s cur st) : ∃ v, w.cell? ⟨s, 8, none⟩ = some v ∧ ShN ShStr 9 1 w (fun b => w0.heap.size ≤ b ∧ b < w.heap.size) st.frm v := by
  obtain ⟨⟨h1, h2⟩, K, hP, v4, v5, v6, v7, v8, v10, v11, v12, rfl, h4, h5, h6, h7, h8, h10, h11, h12⟩ := h
  have := hP.2.1.cell (j := 8) rfl
  rw [Nat.zero_add] at this
  exact ⟨_, this, h8⟩
theorem Sta.at_frm {w0 w : World} {p : Nat} {R : List L.Tok} {m : Int} {s : Nat} {cur : List Value} {st : Z.St} (h : Sta w0 w p R m s cur st) (hl : st.frm = []) : ∃ cur', EL w s 8 29 cur' [.slice none 0 0] ∧ ∀ (w' : World) (R' : List L.Tok) (m' : Int) (x : List Z.W) (cs : List Value), PS w' p R' 0 m' → EL w' s 8 29 cur' cs → ShRow ShStr 9 1 w' (fun b => w.heap.size ≤ b ∧ b < w'.heap.size) x cs → x ≠ [] → Fr [p, s] w w' → Sta w0 w' p R' m' s cur { st with frm := x } := by
  obtain ⟨⟨h1, h2⟩, K, hP, v4, v5, v6, v7, v8, v10, v11, v12, rfl, h4, h5, h6, h7, h8, h10, h11, h12⟩ := h
  obtain rfl := h8.2 hl
  have hE := hP.2.1.sub 8 [.slice none 0 0] (by exact of_decide_eq_true rfl) rfl
  rw [Nat.zero_add] at hE
  refine ⟨_, hE, fun w' R' m' x cs hp he hs hx hf => ?_⟩
  have hc := (ShRow.ok ShStr.ok 9).len hs
  obtain ⟨v, rfl⟩ := form1 hc
  have h3 := hP.part (j := 8) (M := [v]) (by exact of_decide_eq_true rfl) hp (by rw [Nat.zero_add]; exact he) hf
  have hw := hP.2.2.1.2.1
  have hk : ∀ b, (w0.heap.size ≤ b ∧ b < w.heap.size) → (w0.heap.size ≤ b ∧ b < w'.heap.size) ∧ w'.heap[b]? = w.heap[b]? := fun b hb => ⟨⟨hb.1, Nat.lt_of_lt_of_le hb.2 hf.2.1⟩, hf.2.2 b hb.2 (by simp; omega)⟩
  have hn : ShN ShStr 9 1 w' (fun b => w0.heap.size ≤ b ∧ b < w'.heap.size) x v := ⟨(ShRow.ok ShStr.ok 9).on (fun b hb => ⟨⟨Nat.le_trans hw hb.1, hb.2⟩, rfl⟩) _ _ hs, fun e => absurd e hx⟩
  exact ⟨⟨h1, h2⟩, _, h3, v4, v5, v6, v7, v, v10, v11, v12, rfl, h4.on ShCol.ok hk, h5.on ShStr.ok hk, h6.on (ShRow.ok ShE.ok _) hk, h7.on ShSet.ok hk, hn, h10.on ShE.ok hk, h11.on ShE.ok hk, h12.on ShKey.ok hk⟩
theorem Sta.c_star {w0 w : World} {p : Nat} {R : List L.Tok} {m : Int} {s : Nat} {cur : List Value} {st : Z.St} (h : Sta w0 w p R m s cur st) : w.cell? ⟨s, 9, none⟩ = some (.bool st.star) := by
  obtain ⟨⟨h1, h2⟩, K, hP, v4, v5, v6, v7, v8, v10, v11, v12, rfl, h4, h5, h6, h7, h8, h10, h11, h12⟩ := h
  have := hP.2.1.cell (j := 9) rfl
  rwa [Nat.zero_add] at this
theorem Sta.set_star {w0 w : World} {p : Nat} {R : List L.Tok} {m : Int} {s : Nat} {cur : List Value} {st : Z.St} (h : Sta w0 w p R m s cur st) (x : Bool) : Sta w0 (w.setCell ⟨s, 9, none⟩ (.bool x)) p R m s cur { st with star := x } := by
  obtain ⟨⟨h1, h2⟩, K, hP, v4, v5, v6, v7, v8, v10, v11, v12, rfl, h4, h5, h6, h7, h8, h10, h11, h12⟩ := h
  have h3 := hP.set 9 (.bool x)
  simp only [Nat.zero_add] at h3
  have hf := Fr.of_set w ⟨s, 9, none⟩ (.bool x)
  have hk : ∀ b, (w0.heap.size ≤ b ∧ b < w.heap.size) → (w0.heap.size ≤ b ∧ b < (w.setCell ⟨s, 9, none⟩ (.bool x)).heap.size) ∧ (w.setCell ⟨s, 9, none⟩ (.bool x)).heap[b]? = w.heap[b]? := fun b hb => ⟨⟨hb.1, by simpa using hb.2⟩, hf.2.2 b hb.2 (by simp; omega)⟩
  exact ⟨⟨h1, h2⟩, _, h3, v4, v5, v6, v7, v8, v10, v11, v12, rfl, h4.on ShCol.ok hk, h5.on ShStr.ok hk, h6.on (ShRow.ok ShE.ok _) hk, h7.on ShSet.ok hk, h8.on ShStr.ok hk, h10.on ShE.ok hk, h11.on ShE.ok hk, h12.on ShKey.ok hk⟩
theorem Sta.c_out {w0 w : World} {p : Nat} {R : List L.Tok} {m : Int} {s : Nat} {cur : List Value} {st : Z.St} (h : Sta w0 w p R m s cur st) : ∃ v, w.cell? ⟨s, 10, none⟩ = some v ∧ ShN ShE 56 7 w (fun b => w0.heap.size ≤ b ∧ b < w.heap.size) st.out v := by
  obtain ⟨⟨h1, h2⟩, K, hP, v4, v5, v6, v7, v8, v10, v11, v12, rfl, h4, h5, h6, h7, h8, h10, h11, h12⟩ := h
  have := hP.2.1.cell (j := 10) rfl
  rw [Nat.zero_add] at this
  exact ⟨_, this, h10⟩
theorem Sta.at_out {w0 w : World} {p : Nat} {R : List L.Tok} {m : Int} {s : Nat} {cur : List Value} {st : Z.St} (h : Sta w0 w p R m s cur st) (hl : st.out = []) : ∃ cur', EL w s 10 29 cur' [.slice none 0 0] ∧ ∀ (w' : World) (R' : List L.Tok) (m' : Int) (x : List Z.Ex) (cs : List Value), PS w' p R' 0 m' → EL w' s 10 29 cur' cs → ShRow ShE 56 7 w' (fun b => w.heap.size ≤ b ∧ b < w'.heap.size) x cs → x ≠ [] → Fr [p, s] w w' → Sta w0 w' p R' m' s cur { st with out := x } := by
  obtain ⟨⟨h1, h2⟩, K, hP, v4, v5, v6, v7, v8, v10, v11, v12, rfl, h4, h5, h6, h7, h8, h10, h11, h12⟩ := h
  obtain rfl := h10.2 hl
  have hE := hP.2.1.sub 10 [.slice none 0 0] (by exact of_decide_eq_true rfl) rfl
  rw [Nat.zero_add] at hE
  refine ⟨_, hE, fun w' R' m' x cs hp he hs hx hf => ?_⟩
  have hc := (ShRow.ok ShE.ok 56).len hs
  obtain ⟨v, rfl⟩ := form1 hc
  have h3 := hP.part (j := 10) (M := [v]) (by exact of_decide_eq_true rfl) hp (by rw [Nat.zero_add]; exact he) hf
  have hw := hP.2.2.1.2.1
  have hk : ∀ b, (w0.heap.size ≤ b ∧ b < w.heap.size) → (w0.heap.size ≤ b ∧ b < w'.heap.size) ∧ w'.heap[b]? = w.heap[b]? := fun b hb => ⟨⟨hb.1, Nat.lt_of_lt_of_le hb.2 hf.2.1⟩, hf.2.2 b hb.2 (by simp; omega)⟩
  have hn : ShN ShE 56 7 w' (fun b => w0.heap.size ≤ b ∧ b < w'.heap.size) x v := ⟨(ShRow.ok ShE.ok 56).on (fun b hb => ⟨⟨Nat.le_trans hw hb.1, hb.2⟩, rfl⟩) _ _ hs, fun e => absurd e hx⟩
  exact ⟨⟨h1, h2⟩, _, h3, v4, v5, v6, v7, v8, v, v11, v12, rfl, h4.on ShCol.ok hk, h5.on ShStr.ok hk, h6.on (ShRow.ok ShE.ok _) hk, h7.on ShSet.ok hk, h8.on ShStr.ok hk, hn, h11.on ShE.ok hk, h12.on ShKey.ok hk⟩
theorem Sta.c_whr {w0 w : World} {p : Nat} {R : List L.Tok} {m : Int} {s : Nat} {cur : List Value} {st : Z.St} (h : Sta w0 w p R m s cur st) : ∃ v, w.cell? ⟨s, 11, none⟩ = some v ∧ ShN ShE 56 7 w (fun b => w0.heap.size ≤ b ∧ b < w.heap.size) st.whr v := by
  obtain ⟨⟨h1, h2⟩, K, hP, v4, v5, v6, v7, v8, v10, v11, v12, rfl, h4, h5, h6, h7, h8, h10, h11, h12⟩ := h
  have := hP.2.1.cell (j := 11) rfl
  rw [Nat.zero_add] at this
  exact ⟨_, this, h11⟩
theorem Sta.at_whr {w0 w : World} {p : Nat} {R : List L.Tok} {m : Int} {s : Nat} {cur : List Value} {st : Z.St} (h : Sta w0 w p R m s cur st) (hl : st.whr = []) : ∃ cur', EL w s 11 29 cur' [.slice none 0 0] ∧ ∀ (w' : World) (R' : List L.Tok) (m' : Int) (x : List Z.Ex) (cs : List Value), PS w' p R' 0 m' → EL w' s 11 29 cur' cs → ShRow ShE 56 7 w' (fun b => w.heap.size ≤ b ∧ b < w'.heap.size) x cs → x ≠ [] → Fr [p, s] w w' → Sta w0 w' p R' m' s cur { st with whr := x } := by
  obtain ⟨⟨h1, h2⟩, K, hP, v4, v5, v6, v7, v8, v10, v11, v12, rfl, h4, h5, h6, h7, h8, h10, h11, h12⟩ := h
  obtain rfl := h11.2 hl
  have hE := hP.2.1.sub 11 [.slice none 0 0] (by exact of_decide_eq_true rfl) rfl
  rw [Nat.zero_add] at hE
  refine ⟨_, hE, fun w' R' m' x cs hp he hs hx hf => ?_⟩
  have hc := (ShRow.ok ShE.ok 56).len hs
  obtain ⟨v, rfl⟩ := form1 hc
  have h3 := hP.part (j := 11) (M := [v]) (by exact of_decide_eq_true rfl) hp (by rw [Nat.zero_add]; exact he) hf
  have hw := hP.2.2.1.2.1
  have hk : ∀ b, (w0.heap.size ≤ b ∧ b < w.heap.size) → (w0.heap.size ≤ b ∧ b < w'.heap.size) ∧ w'.heap[b]? = w.heap[b]? := fun b hb => ⟨⟨hb.1, Nat.lt_of_lt_of_le hb.2 hf.2.1⟩, hf.2.2 b hb.2 (by simp; omega)⟩
  have hn : ShN ShE 56 7 w' (fun b => w0.heap.size ≤ b ∧ b < w'.heap.size) x v := ⟨(ShRow.ok ShE.ok 56).on (fun b hb => ⟨⟨Nat.le_trans hw hb.1, hb.2⟩, rfl⟩) _ _ hs, fun e => absurd e hx⟩
  exact ⟨⟨h1, h2⟩, _, h3, v4, v5, v6, v7, v8, v10, v, v12, rfl, h4.on ShCol.ok hk, h5.on ShStr.ok hk, h6.on (ShRow.ok ShE.ok _) hk, h7.on ShSet.ok hk, h8.on ShStr.ok hk, h10.on ShE.ok hk, hn, h12.on ShKey.ok hk⟩
theorem Sta.c_ord {w0 w : World} {p : Nat} {R : List L.Tok} {m : Int} {s : Nat} {cur : List Value} {st : Z.St} (h : Sta w0 w p R m s cur st) : ∃ v, w.cell? ⟨s, 12, none⟩ = some v ∧ ShN ShKey 87 8 w (fun b => w0.heap.size ≤ b ∧ b < w.heap.size) st.ord v := by
  obtain ⟨⟨h1, h2⟩, K, hP, v4, v5, v6, v7, v8, v10, v11, v12, rfl, h4, h5, h6, h7, h8, h10, h11, h12⟩ := h
  have := hP.2.1.cell (j := 12) rfl
  rw [Nat.zero_add] at this
  exact ⟨_, this, h12⟩
theorem Sta.at_ord {w0 w : World} {p : Nat} {R : List L.Tok} {m : Int} {s : Nat} {cur : List Value} {st : Z.St} (h : Sta w0 w p R m s cur st) (hl : st.ord = []) : ∃ cur', EL w s 12 29 cur' [.slice none 0 0] ∧ ∀ (w' : World) (R' : List L.Tok) (m' : Int) (x : List (Z.Ex × Bool)) (cs : List Value), PS w' p R' 0 m' → EL w' s 12 29 cur' cs → ShRow ShKey 87 8 w' (fun b => w.heap.size ≤ b ∧ b < w'.heap.size) x cs → x ≠ [] → Fr [p, s] w w' → Sta w0 w' p R' m' s cur { st with ord := x } := by
  obtain ⟨⟨h1, h2⟩, K, hP, v4, v5, v6, v7, v8, v10, v11, v12, rfl, h4, h5, h6, h7, h8, h10, h11, h12⟩ := h
  obtain rfl := h12.2 hl
  have hE := hP.2.1.sub 12 [.slice none 0 0] (by exact of_decide_eq_true rfl) rfl
  rw [Nat.zero_add] at hE
  refine ⟨_, hE, fun w' R' m' x cs hp he hs hx hf => ?_⟩
  have hc := (ShRow.ok ShKey.ok 87).len hs
  obtain ⟨v, rfl⟩ := form1 hc
  have h3 := hP.part (j := 12) (M := [v]) (by exact of_decide_eq_true rfl) hp (by rw [Nat.zero_add]; exact he) hf
  have hw := hP.2.2.1.2.1
  have hk : ∀ b, (w0.heap.size ≤ b ∧ b < w.heap.size) → (w0.heap.size ≤ b ∧ b < w'.heap.size) ∧ w'.heap[b]? = w.heap[b]? := fun b hb => ⟨⟨hb.1, Nat.lt_of_lt_of_le hb.2 hf.2.1⟩, hf.2.2 b hb.2 (by simp; omega)⟩
  have hn : ShN ShKey 87 8 w' (fun b => w0.heap.size ≤ b ∧ b < w'.heap.size) x v := ⟨(ShRow.ok ShKey.ok 87).on (fun b hb => ⟨⟨Nat.le_trans hw hb.1, hb.2⟩, rfl⟩) _ _ hs, fun e => absurd e hx⟩
  exact ⟨⟨h1, h2⟩, _, h3, v4, v5, v6, v7, v8, v10, v11, v, rfl, h4.on ShCol.ok hk, h5.on ShStr.ok hk, h6.on (ShRow.ok ShE.ok _) hk, h7.on ShSet.ok hk, h8.on ShStr.ok hk, h10.on ShE.ok hk, h11.on ShE.ok hk, hn⟩

theorem Z.listF_ne {α : Type} {f : List L.Tok → Int → Z.Rs α} : ∀ {c : Nat} {R R1 : List L.Tok} {m m1 : Int} {l l1 : List α}, Z.listF f c R m l = some (l1, R1, m1) → l1 ≠ []
  | 0, _, _, _, _, _, _, h => by cases h
  | c + 1, R, R1, m, m1, l, l1, h => by
    rw [Z.listF_step] at h
    split at h
    · cases h
    split at h
    · cases h; simp
    · exact Z.listF_ne h

/-- What a call tells that reads into the statement. -/
def OutS (w0 : World) (p s : Nat) (cur : List Value) (r : Z.Rs Z.St) (e : Ending) (w' : World) : Prop :=
  match r with
  | none => e = .returned (.bool false) ∧ Fr [p, s] w0 w'
  | some (st, R, m) => e = .returned (.bool true) ∧ Sta w0 w' p R m s cur st
theorem OutS.no {w0 w' : World} {p s : Nat} {cur : List Value} {r : Z.Rs Z.St} (hr : r = none) (hf : Fr [p, s] w0 w') : OutS w0 p s cur r (.returned (.bool false)) w' := by
  subst hr
  exact ⟨rfl, hf⟩
theorem OutS.yes {w0 w' : World} {p s : Nat} {cur : List Value} {r : Z.Rs Z.St} {st : Z.St} {R : List L.Tok} {m : Int} (hr : r = some (st, R, m)) (hs : Sta w0 w' p R m s cur st) : OutS w0 p s cur r (.returned (.bool true)) w' := by
  subst hr
  exact ⟨rfl, hs⟩
theorem OutS.bool {w0 w' : World} {p s : Nat} {cur : List Value} {r : Z.Rs Z.St} {e : Ending} (h : OutS w0 p s cur r e w') : ∃ b, e = .returned (.bool b) := by
  cases r with
  | none => exact ⟨_, h.1⟩
  | some q => exact ⟨_, h.1⟩

/-- where's one expression: its row is laid, its cell told. -/
theorem Sta.whr {w0 w : World} {p : Nat} {R : List L.Tok} {m : Int} {s : Nat} {cur : List Value} {st : Z.St} (h : Sta w0 w p R m s cur st) :
    PS ((w.setCell ⟨s, 11, none⟩ (.slice (some ⟨w.heap.size, 0, none⟩) 1 1)).alloc (.cells zE.toArray 56)) p R 0 m ∧ EL ((w.setCell ⟨s, 11, none⟩ (.slice (some ⟨w.heap.size, 0, none⟩) 1 1)).alloc (.cells zE.toArray 56)) w.heap.size 0 56 zE zE ∧
      ((∀ w' : World, Fr [p, w.heap.size] ((w.setCell ⟨s, 11, none⟩ (.slice (some ⟨w.heap.size, 0, none⟩) 1 1)).alloc (.cells zE.toArray 56)) w' → Fr [p, s] w0 w') ∧
       ∀ (w' : World) (R' : List L.Tok) (m' : Int) (x : Z.Ex) (cs : List Value), Fr [p, w.heap.size] ((w.setCell ⟨s, 11, none⟩ (.slice (some ⟨w.heap.size, 0, none⟩) 1 1)).alloc (.cells zE.toArray 56)) w' → PS w' p R' 0 m' → EL w' w.heap.size 0 56 zE cs →
        ShE w' (fun b => ((w.setCell ⟨s, 11, none⟩ (.slice (some ⟨w.heap.size, 0, none⟩) 1 1)).alloc (.cells zE.toArray 56)).heap.size ≤ b ∧ b < w'.heap.size) x cs → Sta w0 w' p R' m' s cur { st with whr := [x] }) := by
  obtain ⟨⟨h1, h2⟩, K, hP, v4, v5, v6, v7, v8, v10, v11, v12, rfl, h4, h5, h6, h7, h8, h10, h11, h12⟩ := h
  have hw := hP.2.2.1.2.1
  have hp7 := hP.1.2.1
  have hlt := hP.1.lt
  have hsl := hP.2.1.lt
  have P1 := hP.set 11 (.slice (some ⟨w.heap.size, 0, none⟩) 1 1)
  simp only [Nat.zero_add] at P1
  have hf1 := Fr.of_set w ⟨s, 11, none⟩ (.slice (some ⟨w.heap.size, 0, none⟩) 1 1)
  have hz1 : (w.setCell ⟨s, 11, none⟩ (.slice (some ⟨w.heap.size, 0, none⟩) 1 1)).heap.size = w.heap.size := by simp
  generalize w.setCell ⟨s, 11, none⟩ (.slice (some ⟨w.heap.size, 0, none⟩) 1 1) = w1 at P1 hf1 hz1 ⊢
  have P2 := P1.keep (Fr.of_alloc w1 (.cells zE.toArray 56))
  have hE := EL.fresh w1 56 zE (by omega) (by decide) (by decide)
  rw [hz1] at hE
  have hf2 : Fr [s] w (w1.alloc (.cells zE.toArray 56)) := hf1.trans (Fr.of_alloc (fs := []) _ _) (by simp)
  have hz2 : (w1.alloc (.cells zE.toArray 56)).heap.size = w.heap.size + 1 := by simp [hz1]
  refine ⟨P2.1, hE, fun w' hf => P2.2.2.1.trans hf (by simp; omega), fun w' R' m' x cs hf hp he hs => ?_⟩
  have E' := P2.2.1.fr hf (by simp; exact ⟨P2.2.1.ne P2.1, by omega⟩)
  have hPP : PE w0 w' p R' 0 m' s 0 29 cur ([.int .i64 st.kind, .string (S st.name), .string (S st.table), .bool st.uniq, v4, v5, v6, v7, v8, .bool st.star, v10, v11, v12].set 11 (.slice (some ⟨w.heap.size, 0, none⟩) 1 1)) := by
    refine ⟨hp, E', P2.2.2.1.trans hf (by simp; omega), fun u X hu => ?_⟩
    obtain ⟨_, _, v2, hb, _⟩ := P2.1
    exact (P2.2.2.2 u X hu).two hb hE hf
  have hw' := hf.2.1
  have hk : ∀ b, (w0.heap.size ≤ b ∧ b < w.heap.size) → (w0.heap.size ≤ b ∧ b < w'.heap.size) ∧ w'.heap[b]? = w.heap[b]? := fun b hb => ⟨⟨hb.1, by omega⟩, by rw [hf.2.2 b (by omega) (by simp; omega), hf2.2.2 b hb.2 (by simp; omega)]⟩
  have hl := hs.len
  have hn : ShN ShE 56 7 w' (fun b => w0.heap.size ≤ b ∧ b < w'.heap.size) [x] (.slice (some ⟨w.heap.size, 0, none⟩) 1 1) := by
    refine ⟨⟨_, cs, rfl, ⟨by simp [hl], .inr ⟨w.heap.size, 1, cs.toArray, rfl, Nat.zero_le _, ?_, Nat.le_refl _, by decide, by simp [hl], by rw [List.length_singleton, Nat.one_mul]; simp [← hl]⟩⟩, fun b hb => ?_, cs, [], by simp, hs.mono fun b hb => ⟨by omega, hb.2⟩, rfl⟩, fun e => by cases e⟩
    · have := he.1
      rw [lput_whole (by rw [hl]; rfl)] at this
      exact this
    · obtain rfl : w.heap.size = b := by simpa [Value.ownBlock] using hb
      exact ⟨hw, by omega⟩
  exact ⟨⟨h1, h2⟩, _, hPP, v4, v5, v6, v7, v8, v10, _, v12, rfl, h4.on ShCol.ok hk, h5.on ShStr.ok hk, h6.on (ShRow.ok ShE.ok _) hk, h7.on ShSet.ok hk, h8.on ShStr.ok hk, h10.on ShE.ok hk, hn, h12.on ShKey.ok hk⟩
end Go.Proofs.YtmepkmhfjgocgaaGreatDoor
