/-
  What lies beneath the proofs of package lex: appending to rows of the call's own; strings as lists of bytes; tokens in memory; the reader as it lies; a scope of several labels.
-/
import Derived.Test.YtmepkmhfjgocgabGreatDoorC2
import Derived.Test.YtmepkmhfjgocgabGreatDoorLm
import Derived.Test.YtmepkmhfjgocgabGreatDoorShelf
import Derived.WalkKit
import Derived.WalkMore
import Derived.ScopeJumps
import Derived.WalkLawsBesides
import Derived.Deep.OwnRows
import Derived.Deep.QuietTactic
import Derived.BigQuiet
import Derived.ProofKit
import Derived.OpenShut
import Derived.ShutString
import Derived.ChangeOld
import Derived.Below
import Derived.Carry
import Derived.Deep.SlicePairs
import Derived.Deep.RegionHeld3
import Derived.Deep.RegionWith
import Derived.Deep.AppendSrc
import Derived.Deep.CutRange
import Derived.OwnWalk
namespace Go.Proofs.YtmepkmhfjgocgabGreatDoor
open Go.ChangeShapes Go.WideShapes Go.ChangeAt Go.RowKit Go.Deep

section
variable {P : Program}

theorem owned_rows {w : World} {base : Nat} {e : TypeId} {size : Nat} {v : Value} {n : Nat} {xs : List Value} (h : w.ownsRow base e size v n xs) :
    ∃ a c, v = .slice a n c ∧ n ≤ c ∧ ∀ w' : World, w'.heap = w.heap → (Builtin.firstCells size n v).run P w' = .ok xs.toArray w' := by
  rcases h.2 with ⟨rfl, rfl⟩ | ⟨g, cap, cur, rfl, _, hg, hn, _, _, _⟩
  · have hx : xs = [] := List.eq_nil_of_length_eq_zero (by simpa using h.1)
    subst hx
    exact ⟨none, 0, rfl, Nat.le_refl _, fun w' _ => run_firstCells_none w' size 0 0 0⟩
  · refine ⟨some ⟨g, 0, none⟩, cap, rfl, hn, fun w' hw => run_firstCells_some w' size n ⟨g, 0, none⟩ n cap xs h.1 fun j u hu => ?_⟩
    have := h.cells (g := g) rfl j u hu
    rw [← this]
    exact World.cell?_of_block (by rw [hw])

theorem setCells_get (g off : Nat) (t : TypeId) (news : List Value) : ∀ (w : World) (cur : Array Value) (j : Nat), w.heap[g]? = some (.cells cur t (0, 0)) →
    (∀ k, k ≠ g → (w.setCells g (off + j) news).heap[k]? = w.heap[k]?) ∧ (w.setCells g (off + j) news).heap.size = w.heap.size ∧ Below g w (w.setCells g (off + j) news) ∧
    ∃ cur', (w.setCells g (off + j) news).heap[g]? = some (.cells cur' t (0, 0)) ∧ cur'.size = cur.size ∧ (off + j + news.length ≤ cur.size → cur'.toList.take (off + j + news.length) = cur.toList.take (off + j) ++ news) := by
  induction news with
  | nil => intro w cur j h; exact ⟨fun _ _ => rfl, rfl, Below.refl _ _, cur, h, rfl, fun _ => by simp⟩
  | cons u r ih =>
    intro w cur j h
    have h1 : (w.setCell ⟨g, off + j, none⟩ u).heap[g]? = some (.cells (cur.setIfInBounds (off + j) u) t (0, 0)) := heap_setCell_same w g (off + j) cur t u h
    obtain ⟨a1, a2, a3, cur', a4, a5, a6⟩ := ih (w.setCell ⟨g, off + j, none⟩ u) _ (j + 1) h1
    have e : w.setCells g (off + j) (u :: r) = (w.setCell ⟨g, off + j, none⟩ u).setCells g (off + (j + 1)) r := rfl
    rw [e]
    refine ⟨fun k hk => (a1 k hk).trans (Below.heap_setCell w ⟨g, off + j, none⟩ u k hk), a2.trans (by simp), ((Below.refl g w).setCell (p := ⟨g, off + j, none⟩) (Nat.le_refl _) u).trans a3, cur', a4, a5.trans (by simp), fun hl => ?_⟩
    have hl' : off + (j + 1) + r.length ≤ (cur.setIfInBounds (off + j) u).size := by simp at hl ⊢; omega
    rw [List.length_cons, show off + j + (r.length + 1) = off + (j + 1) + r.length by omega, a6 hl']
    rw [Array.toList_setIfInBounds, show off + (j + 1) = off + j + 1 by omega]
    have hlt : off + j < cur.toList.length := by simp at hl ⊢; omega
    rw [List.take_succ_eq_append_getElem (by simpa using hlt), List.take_set_of_le (by omega), List.getElem_set_self]
    simp

theorem run_append_src (w : World) (base : Nat) (t tx ty e : TypeId) (i : TypeInfo) (z : Value) (size bytes : Nat) (ht : P.underlying t = some (.slice e)) (hi : P.info? e = some i) (hz : i.zero = some z)
    (hsize : i.size = size) (hby : i.bytes = bytes) (hzs : z.cells.size = size) (v : Value) (n : Nat) (xs : List Value) (hown : w.ownsRow base e size v n xs)
    (x : Value) (m : Nat) (news : List Value) (hs : Src P size tx x m news w) (h63 : n + m ≤ maxLen) (hbytes : (n + m) * bytes ≤ 140737488355328) (hbase : base ≤ w.heap.size) :
    ∃ v' w', (Builtin.append_ #[t, tx] ty #[v, x]).run P w = .ok v' w' ∧ w'.ownsRow base e size v' (n + m) (xs ++ news) ∧ w.grownBy w' v.ownBlock ∧ (v'.ownBlock = v.ownBlock ∨ v'.ownBlock = some w.heap.size) := by
  subst hsize hby
  have hmx : maxLen ≤ 9223372036854775807 := by unfold maxLen; omega
  have hlen : (xs ++ news).length = (n + m) * i.size := by rw [List.length_append, hown.1, hs.newsLen, Nat.add_mul]
  obtain ⟨a, c, rfl, hnc, hold⟩ := owned_rows (P := P) hown
  by_cases hroom : n + m ≤ c
  · rcases hown.2 with ⟨hv, h0⟩ | ⟨g, cap, cur, hv, hbg, hg, hn, hcm, hcs, htake⟩
    · obtain ⟨rfl, rfl, rfl⟩ := by simpa using hv
      obtain rfl : m = 0 := by omega
      have hn0 : news = [] := List.eq_nil_of_length_eq_zero (by simpa using hs.newsLen)
      have hx0 : xs = [] := List.eq_nil_of_length_eq_zero (by simpa using hown.1)
      subst hn0 hx0
      refine ⟨.slice none 0 0, w, ?_, World.ownsRow_nil w base e i.size, ⟨rfl, rfl, rfl, Nat.le_refl _, fun _ _ _ => rfl⟩, .inl rfl⟩
      have hc := hs.cells
      have hl := hs.len
      rcases hs.kind with ⟨e', hk⟩ | hk <;> simp [Builtin.append_, run_underlying ht, run_underlying hk, sizeOf, typeInfo, hi, hl, hc]
    · obtain ⟨rfl, _, rfl⟩ := by simpa using hv
      have hfit : n * i.size + news.length ≤ cur.size := by rw [hs.newsLen, hcs, ← Nat.add_mul]; exact Nat.mul_le_mul_right _ hroom
      have hr := run_append_room_src (P := P) w t tx ty e i ht hi g 0 n c x m news hs hroom
        (fun j hj => by
          have : (w.cell? ⟨g, 0 + n * i.size + j, none⟩) = cur[0 + n * i.size + j]? := by simp [World.cell?, hg]
          rw [this, Array.getElem?_eq_getElem (by omega)]; rfl)
        (fun j _ => by simp [World.frozen?, hg])
      obtain ⟨a1, a2, a3, cur', a4, a5, a6⟩ := setCells_get g (0 + n * i.size) e news w cur 0 hg
      simp only [Nat.zero_add, Nat.add_zero] at a1 a2 a3 a4 a6 hr
      refine ⟨_, _, hr, ⟨hlen, .inr ⟨g, c, cur', rfl, hbg, a4, hroom, hcm, by rw [a5, hcs], ?_⟩⟩, ⟨a3.os, a3.tape, a3.output, by rw [a2]; exact Nat.le_refl _, fun k _ hk => a1 k (fun q => hk (by simp [Value.ownBlock, q]))⟩, .inl rfl⟩
      rw [Nat.add_mul, ← hs.newsLen, a6 hfit, htake]
  · have hfit := growslice_fits (by omega : c < n + m) hbytes
    have hr := run_append_grow_src (P := P) w t tx ty e i z ht hi hz a n c xs (hold w.drew rfl) x m news hs (by omega) (by omega) hfit
    have hge := grownCap_ge w (n + m) c e
    have hcm : grownCap w (n + m) c e ≤ maxLen := grownCap_le_maxLen w (n + m) c e h63
    refine ⟨_, _, hr, ⟨hlen, .inr ⟨w.heap.size, _, _, rfl, hbase, heap_alloc_new w.drew _, hge, hcm, ?_, ?_⟩⟩, ⟨rfl, rfl, rfl, by simp, fun k hk _ => Below.heap_alloc w.drew _ k hk⟩, .inr rfl⟩
    · rw [Array.size_append, size_zeroCells, hzs, List.size_toArray, hlen, ← Nat.add_mul]
      congr 1
      omega
    · rw [Array.toList_append, ← hlen]
      exact List.take_left

theorem wpList_append_run {w : World} {ops : Array Oper} {rest : List Oper} {o : Oper} {a : Act} {Q : Exit → Act → World → Prop} (hgd : o.guard = none) (s x : Operand) (t tx : TypeId)
    (ho : o.op = .call { callee := .builtin .append, args := #[s, x], argTypes := #[t, tx] }) (v xv : Value) (hs : a.eval s = v) (hx : a.eval x = xv) {R : Value → World → Prop}
    (H : ∃ v' w', (Builtin.append_ #[t, tx] o.type #[v, xv]).run P w = .ok v' w' ∧ R v' w') (h : ∀ v' w', R v' w' → wpList P ops Q rest (a.put o.dst v') w') : wpList P ops Q (o :: rest) a w := by
  refine wpList_plain hgd fun K hK => ?_
  obtain ⟨v', w', hr, h'⟩ := H
  unfold Oper.wp execOp
  simp only [ho, resolve, invoke, builtin, Sem.run_bind, Sem.run_pure, Result.andThen_ok, List.map_toArray, List.map_cons, List.map_nil, hs, hx, hr]
  exact hK _ _ (h _ _ h')
end

theorem owns_keep {w w' : World} {base : Nat} {e : TypeId} {size : Nat} {v : Value} {n : Nat} {xs : List Value} (h : w.ownsRow base e size v n xs) (hb : Below w.heap.size w w') : w'.ownsRow base e size v n xs := by
  refine ⟨h.1, ?_⟩
  rcases h.2 with h0 | ⟨g, cap, cur, hv, hg, hh, hr⟩
  · exact .inl h0
  · exact .inr ⟨g, cap, cur, hv, hg, by rw [hb.block g (Array.getElem?_eq_some_iff.1 hh).1]; exact hh, hr⟩

theorem owns_base {w : World} {base base' : Nat} {e : TypeId} {size : Nat} {v : Value} {n : Nat} {xs : List Value} (h : w.ownsRow base e size v n xs) (hb : base' ≤ base) : w.ownsRow base' e size v n xs := by
  refine ⟨h.1, ?_⟩
  rcases h.2 with h0 | ⟨g, cap, cur, hv, hg, hr⟩
  · exact .inl h0
  · exact .inr ⟨g, cap, cur, hv, by omega, hr⟩

/-- One cell in a block of its own, as it is appended. -/
theorem src_one (w : World) (e T : TypeId) (u : Value) (hT : Tryz.prog.underlying T = some (.slice e)) (hu : u.oneCell' = true) : Src Tryz.prog 1 T (.slice (some ⟨w.heap.size, 0, none⟩) 1 1) 1 [u] (w.alloc (.cells #[u] e)) := by
  refine Src.ofSlice _ hT ⟨w.heap.size, 0, none⟩ 1 1 [u] rfl (fun j x hj => ?_) (fun x hx => ?_)
  · match j, hj with
    | 0, hj => simp at hj; subst hj; simp [Addr.add]
  · simp at hx; subst hx; exact hu


theorem Tryz.info5 : (Tryz.prog.info? 5).map (fun i => (i.zero, i.size, i.bytes)) = some (some (.int .u8 0), 1, 1) := by kernel_rfl
theorem Tryz.info113 : (Tryz.prog.info? 113).map (fun i => (i.zero, i.size, i.bytes)) = some (some (.agg #[.int .i64 0, .string ⟨#[]⟩, .int .i64 0]), 3, 32) := by kernel_rfl

/-- By a goto to any label: what J says of it. -/
def jumpsTo (J : Nat → Act → World → Prop) (Q : Exit → Act → World → Prop) : Exit → Act → World → Prop
  | .goto l, a, w => J l a w
  | e, a, w => Q e a w

/-- A scope that opens with a label, and goes from label to label: at each jump a number falls. -/
theorem wp_scope_states {P : Program} {a : Act} {w : World} {Q : Exit → Act → World → Prop} {body : Code} (l0 n0 : Nat) (J : Nat → Nat → Act → World → Prop) (hJ : J l0 n0 a w)
    (pass0 : ∀ n a w, J l0 n a w → body.wp P (jumpsTo (fun l' a' w' => ∃ n', n' < n ∧ J l' n' a' w') Q) a w)
    (pass : ∀ l n a w, l ≠ l0 → J l n a w → ∃ rest, findLabel (.seq (.label l0) body) l = some rest ∧ rest.wp P (jumpsTo (fun l' a' w' => ∃ n', n' < n ∧ J l' n' a' w') Q) a w) : (Code.scope (.seq (.label l0) body)).wp P Q a w := by
  intro b k cs
  have hf0 : findLabel (.seq (.label l0) body) l0 = some (.seq .skip body) := by simp [findLabel]
  have all : ∀ l n a w, J l n a w → ∃ rest, findLabel (.seq (.label l0) body) l = some rest ∧ rest.wp P (jumpsTo (fun l' a' w' => ∃ n', n' < n ∧ J l' n' a' w') Q) a w := by
    intro l n a w h
    by_cases e : l = l0
    · subst e
      exact ⟨_, hf0, wp_seq (wp_skip (pass0 n a w h))⟩
    · exact pass l n a w e h
  have key : ∀ n l a w rest, J l n a w → findLabel (.seq (.label l0) body) l = some rest → ∃ e a' w', Q e a' w' ∧ Arrives P (lone (b.at a (.code rest :: .inScope (.seq (.label l0) body) :: k)) cs w) b k cs e a' w' := by
    intro n
    induction n using Nat.strongRecOn with
    | _ n ih =>
      intro l a w rest hJ hf
      obtain ⟨rest', hf', hw⟩ := all l n a w hJ
      obtain rfl : rest = rest' := by rw [hf] at hf'; exact Option.some.inj hf'
      obtain ⟨e, a1, w1, hq, harr⟩ := hw b (.inScope (.seq (.label l0) body) :: k) cs
      cases e with
      | normal => exact ⟨.normal, a1, w1, hq, Steps.trans harr (.one step_inScope)⟩
      | exit id => exact ⟨.exit id, a1, w1, hq, fun k' hk => harr k' (by simp [exitTo, hk])⟩
      | goto l' =>
        obtain ⟨n', hlt, hJ'⟩ := hq
        obtain ⟨r2, hf2, _⟩ := all l' n' a1 w1 hJ'
        have hg : gotoIn l' (.inScope (.seq (.label l0) body) :: k) = some (.code r2 :: .inScope (.seq (.label l0) body) :: k) := by simp [gotoIn, hf2]
        obtain ⟨e2, a2, w2, hq2, harr2⟩ := ih n' hlt l' a1 w1 r2 hJ' hf2
        exact ⟨e2, a2, w2, hq2, .of_steps (harr _ hg) harr2⟩
      | ret => exact ⟨_, a1, w1, hq, harr⟩
      | panic ch => exact ⟨_, a1, w1, hq, harr⟩
      | outgrown => exact ⟨_, a1, w1, hq, harr⟩
  have first : (Code.seq (.label l0) body).wp P (jumpsTo (fun l' a' w' => ∃ n', n' < n0 ∧ J l' n' a' w') Q) a w := wp_seq (wp_label (pass0 n0 a w hJ))
  obtain ⟨e, a1, w1, hq, harr⟩ := first b (.inScope (.seq (.label l0) body) :: k) cs
  cases e with
  | normal => exact ⟨.normal, a1, w1, hq, .head step_scope (Steps.trans harr (.one step_inScope))⟩
  | exit id => exact ⟨.exit id, a1, w1, hq, fun k' hk => .head step_scope (harr k' (by simp [exitTo, hk]))⟩
  | goto l' =>
    obtain ⟨n', _, hJ'⟩ := hq
    obtain ⟨r2, hf2, _⟩ := all l' n' a1 w1 hJ'
    have hg : gotoIn l' (.inScope (.seq (.label l0) body) :: k) = some (.code r2 :: .inScope (.seq (.label l0) body) :: k) := by simp [gotoIn, hf2]
    obtain ⟨e2, a2, w2, hq2, harr2⟩ := key n' l' a1 w1 r2 hJ' hf2
    exact ⟨e2, a2, w2, hq2, .of_steps (.head step_scope (harr _ hg)) harr2⟩
  | ret => exact ⟨_, a1, w1, hq, .of_steps (.one step_scope) harr⟩
  | panic ch => exact ⟨_, a1, w1, hq, .of_steps (.one step_scope) harr⟩
  | outgrown => exact ⟨_, a1, w1, hq, .of_steps (.one step_scope) harr⟩

/-- A text of these bytes. -/
def S (L : List UInt8) : ByteArray := ⟨L.toArray⟩
theorem S_data (L : List UInt8) : (S L).data.toList = L := rfl
theorem S_size (L : List UInt8) : (S L).size = L.length := rfl
theorem S_of (s : ByteArray) : S s.data.toList = s := rfl
theorem S_inj {L K : List UInt8} (h : S L = S K) : L = K := by
  have := congrArg (fun s : ByteArray => s.data.toList) h
  exact this

def UC (c : UInt8) : Value := .int .u8 (c.toNat : Int)
def TC (t : L.Tok) : List Value := [.int .i64 t.1, .string (S t.2.1), .int .i64 t.2.2]
def TCs (T : List L.Tok) : List Value := T.flatMap TC
theorem TCs_length (T : List L.Tok) : (TCs T).length = T.length * 3 := by
  induction T with
  | nil => rfl
  | cons x T ih =>
    have e : TCs (x :: T) = TC x ++ TCs T := rfl
    rw [e, List.length_append, ih, List.length_cons]
    simp [TC]
    omega
theorem TCs_snoc (T : List L.Tok) (x : L.Tok) : TCs (T ++ [x]) = TCs T ++ TC x := by
  unfold TCs
  rw [List.flatMap_append]
  simp

/-- The variable that says a number is out of range lies where it should. -/
def Vr (w : World) : Prop := ∃ ev, w.cell? ⟨7, 0, none⟩ = some ev ∧ (ev = .nilIface ∨ ∃ te pe, ev = .iface te pe)
theorem Vr.on {w w' : World} {B : Nat} (h : Vr w) (hb : Below B w w') (h2 : 7 < B) : Vr w' := by
  obtain ⟨ev, h1, h3⟩ := h
  refine ⟨ev, ?_, h3⟩
  exact (World.cell?_of_block (a := ⟨7, 0, none⟩) (hb.block 7 h2)).trans h1

/-- The reader at block p: what is left, what is gathered, the tokens, whether one is too long; all of it made since base. -/
def Rd (w : World) (base p : Nat) (X G : List UInt8) (T : List L.Tok) (lg : Bool) : Prop :=
  7 < base ∧ Vr w ∧ base ≤ p ∧ ∃ vg vt, w.heap[p]? = some (.cells #[.string (S X), vg, vt, .bool lg] 98 (0, 0)) ∧ w.ownsRow base 5 1 vg G.length (G.map UC) ∧ w.ownsRow base 113 3 vt T.length (TCs T)

theorem owns_other {w w' : World} {base p : Nat} {e t : TypeId} {size : Nat} {v : Value} {n : Nat} {xs : List Value} {c : Array Value} {z : Nat × Nat} (h : w.ownsRow base e size v n xs) (hp : w.heap[p]? = some (.cells c t z)) (ht : t ≠ e) (hk : ∀ k, k ≠ p → k < w.heap.size → w'.heap[k]? = w.heap[k]?) : w'.ownsRow base e size v n xs := by
  refine ⟨h.1, ?_⟩
  rcases h.2 with h0 | ⟨g, cap, cur, hv, hg, hh, hr⟩
  · exact .inl h0
  · refine .inr ⟨g, cap, cur, hv, hg, ?_, hr⟩
    rw [hk g ?_ (Array.getElem?_eq_some_iff.1 hh).1]
    · exact hh
    · rintro rfl
      rw [hp] at hh
      simp at hh
      exact ht hh.2.1

/-- One cell of the reader is written. -/
theorem Rd.set {w : World} {base p : Nat} {c : Array Value} {t : TypeId} (hp : w.heap[p]? = some (.cells c t (0, 0))) (j : Nat) (u : Value) :
    (w.setCell ⟨p, j, none⟩ u).heap[p]? = some (.cells (c.setIfInBounds j u) t (0, 0)) ∧ (∀ k, k ≠ p → k < w.heap.size → (w.setCell ⟨p, j, none⟩ u).heap[k]? = w.heap[k]?) ∧ (base ≤ p → Below base w (w.setCell ⟨p, j, none⟩ u)) :=
  ⟨heap_setCell_same w p j c t u hp, fun k hk _ => Below.heap_setCell w ⟨p, j, none⟩ u k hk, fun h => (Below.refl base w).setCell (p := ⟨p, j, none⟩) h u⟩
end Go.Proofs.YtmepkmhfjgocgabGreatDoor
