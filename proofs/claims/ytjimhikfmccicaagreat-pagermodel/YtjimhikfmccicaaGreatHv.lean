/-
  What the law package's act changes of its own: rows of numbers, rows of marks, the model itself.
-/
import Derived.Test.YtjimhikfmccicaaGreatMg40
namespace Go.Proofs.YtjimhikfmccicaaGreat
open Go.RowKit Go.Maps Go.Sort Go.Shelf

theorem Idb.keepX {b0 : Nat} {w w' : World} {P D : Nat} {md : Int} {lb n : Nat} {F : List Nat} {p : List (List Nat)} (h : Idb b0 w P D md lb n F p) {fs : List Nat} (hF : Fr fs w w') (hX : ∀ k ∈ fs, k < w.heap.size → Xx w k) (hn : ∀ k ∈ fs, k ∉ F) : Idb b0 w' P D md lb n F p := by
  obtain ⟨⟨⟨A, g1, g2⟩, g3, g4, g5, g6, g7⟩, g8, g9, g10, g11, g12⟩ := h
  exact ⟨⟨⟨A, g1.fr hF (fun k hk hm => hn k hm hk), g2⟩, g3.fr hF (fun hm => (hX P hm g3.lt).no.1 g3.pk), g4.fr hF (fun hm => (hX lb hm g4.lt).no.1 g4.pk), g5, g6, g7⟩, g8, g9, g10, g11, Nat.le_trans g12 hF.2.1⟩
namespace H
/-- A change of the law package's own blocks. -/
def Lw (b0 : Nat) (F : List Nat) (w w' : World) : Prop := ∃ fs, Fr fs w w' ∧ ∀ k ∈ fs, (k < w.heap.size → Xx w k) ∧ k ∉ F ∧ b0 ≤ k
theorem Xx.ot {w : World} {k : Nat} (h : k < w.heap.size → Xx w k) : Ot w k := by
  refine ⟨fun cur e => ?_, fun cur e => ?_⟩ <;>
  · rcases h (Array.getElem?_eq_some_iff.1 e).1 with ⟨c, h⟩ | ⟨c, h⟩ | ⟨c, h⟩ <;> (rw [h] at e; simp at e)
theorem Lw.below {b0 : Nat} {F : List Nat} {w w' : World} (h : Lw b0 F w w') (hb : b0 ≤ w.heap.size) : Below b0 w w' := by
  obtain ⟨fs, hF, hX⟩ := h
  exact hF.below hb (fun k hk => (hX k hk).2.2)
theorem Lw.pgl {b0 : Nat} {F : List Nat} {w w' : World} (h : Lw b0 F w w') {v : Value} {p : List (List Nat)} (hp : PgL w F v p) : PgL w' F v p := by
  obtain ⟨fs, hF, hX⟩ := h
  exact hp.keepO hF (fun k hk => Xx.ot (hX k hk).1)
theorem Lw.pv {b0 : Nat} {F : List Nat} {w w' : World} (h : Lw b0 F w w') {v : Value} {p : List Nat} (hp : Pv w F v p) : Pv w' F v p := by
  obtain ⟨fs, hF, hX⟩ := h
  exact hp.keepO hF (fun k hk => Xx.ot (hX k hk).1)
theorem Lw.opn {b0 : Nat} {w w' : World} {P D : Nat} {md : Int} {lb n : Nat} {F : List Nat} {p now : List (List Nat)} {tl : Nat} {Ms : List (Nat × List (List Nat))} (h : Lw b0 F w w') (ho : Opn b0 w P D md lb n F p now tl Ms) : Opn b0 w' P D md lb n F p now tl Ms := by
  obtain ⟨fs, hF, hX⟩ := h
  exact ho.keepX hF (fun k hk => (hX k hk).1) (fun k hk => (hX k hk).2.1)
theorem Lw.idb {b0 : Nat} {w w' : World} {P D : Nat} {md : Int} {lb n : Nat} {F : List Nat} {p : List (List Nat)} (h : Lw b0 F w w') (ho : Idb b0 w P D md lb n F p) : Idb b0 w' P D md lb n F p := by
  obtain ⟨fs, hF, hX⟩ := h
  exact ho.keepX hF (fun k hk => (hX k hk).1) (fun k hk => (hX k hk).2.1)
/-- The model's own block behind a call of the pager. -/
theorem row_turn {w w' : World} {F fs : List Nat} {mb : Nat} {cur : Array Value} (h1 : w.heap[mb]? = some (.cells cur 39 (0, 0))) (hm : mb ∉ F) (hF : Fr fs w w') (hc : Cg F fs w) : w'.heap[mb]? = some (.cells cur 39 (0, 0)) := by
  have hml := (Array.getElem?_eq_some_iff.1 h1).1
  rw [hF.2.2 mb hml (fun hk => ?_)]
  · exact h1
  · rcases hc mb hk hml with h | h
    · exact (pk_not2 h).2.2 _ h1
    · exact hm h
theorem MkL.turn {b0 : Nat} {w w' : World} {F F' : List Nat} {v : Value} {Ms : List (Nat × List (List Nat))} (h : MkL b0 w F v Ms) {fs : List Nat} (hF : Fr fs w w') (hc : Cg F fs w) (hn' : ∀ k ∈ F', k ∈ F ∨ w.heap.size ≤ k) : MkL b0 w' F' v Ms := by
  obtain ⟨Us, m1, m2, m3, m4⟩ := h
  obtain ⟨k1, k2⟩ := row_kept m2 m3 hF hc hn' (fun k hk => (pk_not2 hk).1)
  exact ⟨Us, m1, k1, k2, fun i u x hu hx => (m4 i u x hu hx).turn hF hc hn'⟩
theorem IdR.turn {b0 : Nat} {w w' : World} {F F' : List Nat} {v : Value} {Ms : List (Nat × List (List Nat))} (h : IdR b0 w F v Ms) {fs : List Nat} (hF : Fr fs w w') (hc : Cg F fs w) (hn' : ∀ k ∈ F', k ∈ F ∨ w.heap.size ≤ k) : IdR b0 w' F' v Ms := row_kept h.1 h.2 hF hc hn' (fun _ hk => (pk_not2 hk).2.1)
theorem not_turn {w : World} {F F' : List Nat} {mb : Nat} {cur : Array Value} {t : TypeId} (h1 : w.heap[mb]? = some (.cells cur t (0, 0))) (hm : mb ∉ F) (hn' : ∀ k ∈ F', k ∈ F ∨ w.heap.size ≤ k) : mb ∉ F' := fun hk => (hn' mb hk).elim hm (fun h => by have := (Array.getElem?_eq_some_iff.1 h1).1; omega)
/-- A store into the model. -/
theorem set_lw {b0 : Nat} {F : List Nat} {w : World} {mb i : Nat} {u : Value} {cur : Array Value} (h1 : w.heap[mb]? = some (.cells cur 39 (0, 0))) (hm : mb ∉ F) (hb : b0 ≤ mb) : Lw b0 F w (w.setCell ⟨mb, i, none⟩ u) ∧ (∀ v Ms, MkL b0 w F v Ms → MkL b0 (w.setCell ⟨mb, i, none⟩ u) F v Ms) ∧ (∀ v Ms, IdR b0 w F v Ms → IdR b0 (w.setCell ⟨mb, i, none⟩ u) F v Ms) := by
  obtain ⟨p1, p2, p3, p4, p5, _⟩ := mdl_set (i := i) (u := u) h1
  refine ⟨⟨[mb], p2, fun k hk => ?_⟩, fun v Ms h => h.other p2 (fun k hk => by simp at hk; rw [hk]; exact ⟨p3, p4⟩), fun v Ms h => h.other p2 (fun k hk => by simp at hk; rw [hk]; exact p5)⟩
  simp at hk
  subst hk
  exact ⟨fun _ => .inl ⟨_, h1⟩, hm, hb⟩
/-- A row of one kind grown by one, in place or anew. -/
theorem push_row {b0 : Nat} {F : List Nat} {w wx w' : World} {e : TypeId} {v v' : Value} (hb : Below w.heap.size w wx) (hv : ∀ k, v.ownBlock = some k → k ∉ F ∧ b0 ≤ k) (hFl : ∀ k ∈ F, k < w.heap.size) (hb0 : b0 ≤ w.heap.size) (hg : wx.grownBy w' v.ownBlock) (hbk : v'.ownBlock = v.ownBlock ∨ v'.ownBlock = some wx.heap.size) {n : Nat} {xs : List Value} (ho : w.ownsRow 0 e 1 v n xs) :
    (∀ k, v'.ownBlock = some k → k ∉ F ∧ b0 ≤ k) ∧ Fr v.ownBlock.toList w w' ∧ ∀ k ∈ v.ownBlock.toList, (∃ cur, w.heap[k]? = some (.cells cur e (0, 0))) ∧ k ∉ F ∧ b0 ≤ k := by
  refine ⟨fun k hk => ?_, (Fr.of_below hb).trans (Fr.of_grown hg) (fun k hk => .inl hk), fun k hk => ?_⟩
  · rcases hbk with h | h
    · exact hv k (by rw [← h]; exact hk)
    · rw [h] at hk
      have h2 : wx.heap.size = k := by simpa using hk
      have := hb.size
      exact ⟨fun hm => by have := hFl k hm; omega, by omega⟩
  · rw [Option.mem_toList] at hk
    refine ⟨?_, hv k hk⟩
    rcases ho.2 with ⟨h, _⟩ | ⟨g, cap, cur, h, _, hgr, _⟩
    · rw [h] at hk; cases hk
    · rw [h] at hk
      cases hk
      exact ⟨cur, hgr⟩
/-- A number put behind those of the marks. -/
def IdN (b0 : Nat) (F : List Nat) (w : World) (Ms : List (Nat × List (List Nat))) (v' : Value) (w' : World) : Prop := ∃ a c, v' = .slice a Ms.length c ∧ IdR b0 w' F v' Ms ∧ Lw b0 F w w' ∧ (∀ v Ns, MkL b0 w F v Ns → MkL b0 w' F v Ns) ∧ ∀ (mb : Nat) (cur : Array Value), w.heap[mb]? = some (.cells cur 39 (0, 0)) → w'.heap[mb]? = some (.cells cur 39 (0, 0))
theorem ids_push {b0 : Nat} {F : List Nat} {w : World} {vi : Value} {Ms : List (Nat × List (List Nat))} (h : IdR b0 w F vi Ms) (hFl : ∀ k ∈ F, k < w.heap.size) (hb0 : b0 ≤ w.heap.size) (hl : Ms.length ≤ 2000) (t : Nat) (n : Int) (hn : n = (t : Int)) (x : List (List Nat)) :
    ∃ v' w', (Builtin.append_ #[24, 24] 24 #[vi, .slice (some ⟨w.heap.size, 0, none⟩) 1 1]).run Tryz.prog (w.alloc (.cells #[.int .i64 n] 3)) = .ok v' w' ∧ IdN b0 F w (Ms ++ [(t, x)]) v' w' := by
  obtain ⟨i0, hi, hz0, hz1, hz2⟩ := info_parts info_int
  have hb : Below w.heap.size w (w.alloc (.cells #[.int .i64 n] 3)) := (Below.refl _ _).alloc (Nat.le_refl _) _
  obtain ⟨v', w', h1, h2, h3, hbk⟩ := run_append_src (P := Tryz.prog) (w.alloc (.cells #[.int .i64 n] 3)) 0 24 24 24 3 i0 _ 1 8 Tryz.underlying24 hi hz0 hz1 hz2 rfl vi Ms.length (idV Ms) (h.1.alloc _) _ 1 _ (src_int w n) (by unfold maxLen; omega) (by omega) (Nat.zero_le _)
  obtain ⟨k1, k2, k3⟩ := push_row hb h.2 hFl hb0 h3 hbk h.1
  have hv : ∃ a c, v' = .slice a (Ms ++ [(t, x)]).length c := by
    rcases h2.2 with ⟨_, h0⟩ | ⟨g, cap, cur, h, _⟩
    · omega
    · exact ⟨_, cap, by rw [h, List.length_append]; rfl⟩
  obtain ⟨a, c, hv⟩ := hv
  refine ⟨v', w', h1, a, c, hv, ⟨?_, k1⟩, ⟨_, k2, fun k hk => ⟨fun _ => .inr (.inl (k3 k hk).1), (k3 k hk).2⟩⟩, fun v Ns hm => hm.other k2 (fun k hk => ?_), fun mb cur hr => ?_⟩
  · rw [List.length_append]
    unfold idV at h2 ⊢
    rw [List.map_append, List.map_cons, List.map_nil, ← hn]
    exact h2
  · obtain ⟨⟨cur, hc⟩, _⟩ := k3 k hk
    exact ⟨Xx.ot (fun _ => .inr (.inl ⟨cur, hc⟩)), fun cur' e => by rw [hc] at e; simp at e⟩
  · rw [k2.2.2 mb (Array.getElem?_eq_some_iff.1 hr).1 (fun hk => ?_)]
    · exact hr
    · obtain ⟨⟨cur2, hc⟩, _⟩ := k3 mb hk
      rw [hc] at hr
      simp at hr
/-- Pages put behind those of the marks. -/
def MkN (b0 : Nat) (F : List Nat) (w : World) (Ms : List (Nat × List (List Nat))) (v' : Value) (w' : World) : Prop := ∃ a c, v' = .slice a Ms.length c ∧ MkL b0 w' F v' Ms ∧ Lw b0 F w w' ∧ (∀ v Ns, IdR b0 w F v Ns → IdR b0 w' F v Ns) ∧ ∀ (mb : Nat) (cur : Array Value), w.heap[mb]? = some (.cells cur 39 (0, 0)) → w'.heap[mb]? = some (.cells cur 39 (0, 0))
theorem info_pages : (Tryz.prog.info? 36).map (fun i => (i.zero, i.size, i.bytes)) = some (some (.slice none 0 0), 1, 24) := by kernel_rfl
theorem src_pages {w : World} {b : Nat} {u : Value} (hu : u.oneCell' = true) (hc : w.cell? ⟨b, 0, none⟩ = some u) : Src Tryz.prog 1 37 (.slice (some ⟨b, 0, none⟩) 1 1) 1 [u] w := by
  refine Src.ofSlice _ Tryz.underlying37 ⟨b, 0, none⟩ 1 1 _ rfl (fun j u' hj => ?_) (fun u' hu' => ?_)
  · match j, hj with
    | 0, hj => simp at hj; subst hj; simpa [Addr.add] using hc
  · simp at hu'
    subst hu'
    exact hu
theorem marks_push {b0 : Nat} {F : List Nat} {w wx : World} {vm : Value} {Ms : List (Nat × List (List Nat))} (h : MkL b0 w F vm Ms) (hb : Below w.heap.size w wx) (hFl : ∀ k ∈ F, k < w.heap.size) (hb0 : b0 ≤ w.heap.size) (hl : Ms.length ≤ 2000) (t : Nat) {u : Value} {x : List (List Nat)} (hu : PgL w F u x) {b : Nat} (hc : wx.cell? ⟨b, 0, none⟩ = some u) :
    ∃ v' w', (Builtin.append_ #[37, 37] 37 #[vm, .slice (some ⟨b, 0, none⟩) 1 1]).run Tryz.prog wx = .ok v' w' ∧ MkN b0 F w (Ms ++ [(t, x)]) v' w' := by
  obtain ⟨i0, hi, hz0, hz1, hz2⟩ := info_parts info_pages
  obtain ⟨Us, m1, m2, m3, m4⟩ := h
  have hu1 : u.oneCell' = true := by obtain ⟨a, c, rfl, _⟩ := hu.slice; rfl
  obtain ⟨v', w', h1, h2, h3, hbk⟩ := run_append_src (P := Tryz.prog) wx 0 37 37 37 36 i0 _ 1 24 Tryz.underlying37 hi hz0 hz1 hz2 rfl vm Ms.length Us (owns_keep m2 hb) _ 1 _ (src_pages hu1 hc) (by unfold maxLen; omega) (by omega) (Nat.zero_le _)
  obtain ⟨k1, k2, k3⟩ := push_row hb m3 hFl hb0 h3 hbk m2
  have hv : ∃ a c, v' = .slice a (Ms ++ [(t, x)]).length c := by
    rcases h2.2 with ⟨_, h0⟩ | ⟨g, cap, cur, h, _⟩
    · omega
    · exact ⟨_, cap, by rw [h, List.length_append]; rfl⟩
  obtain ⟨a, c, hv⟩ := hv
  have hLw : Lw b0 F w w' := ⟨_, k2, fun k hk => ⟨fun _ => .inr (.inr (k3 k hk).1), (k3 k hk).2⟩⟩
  refine ⟨v', w', h1, a, c, hv, ⟨Us ++ [u], by rw [List.length_append, List.length_append, m1]; rfl, by rw [List.length_append]; exact h2, k1, fun i y z hy hz => hLw.pgl ?_⟩, hLw, fun v Ns hm => hm.other k2 (fun k hk => ?_), fun mb cur hr => ?_⟩
  · by_cases hi : i < Us.length
    · rw [List.getElem?_append_left hi] at hy
      rw [List.getElem?_append_left (by omega)] at hz
      exact m4 i y z hy hz
    · rw [List.getElem?_append_right (by omega)] at hy
      rw [List.getElem?_append_right (by omega)] at hz
      have h0 : i - Us.length = 0 := by
        have := (List.getElem?_eq_some_iff.1 hy).1
        simp at this
        omega
      rw [h0] at hy
      rw [show i - Ms.length = 0 by omega] at hz
      simp at hy hz
      subst hy hz
      exact hu
  · obtain ⟨⟨cur, hc⟩, _⟩ := k3 k hk
    exact fun cur' e => by rw [hc] at e; simp at e
  · rw [k2.2.2 mb (Array.getElem?_eq_some_iff.1 hr).1 (fun hk => ?_)]
    · exact hr
    · obtain ⟨⟨cur2, hc⟩, _⟩ := k3 mb hk
      rw [hc] at hr
      simp at hr
theorem IdR.slice {b0 : Nat} {F : List Nat} {w : World} {v : Value} {Ms : List (Nat × List (List Nat))} (h : IdR b0 w F v Ms) : ∃ a c, v = .slice a Ms.length c ∧ Ms.length ≤ c ∧ c ≤ 9223372036854775807 := by
  rcases h.1.2 with ⟨h, h0⟩ | ⟨g, cap, cur, h, _, _, h1, h2, _⟩
  · exact ⟨none, 0, by rw [h, h0], by omega, by omega⟩
  · exact ⟨_, cap, h, h1, by unfold maxLen at h2; omega⟩
theorem MkL.slice {b0 : Nat} {F : List Nat} {w : World} {v : Value} {Ms : List (Nat × List (List Nat))} (h : MkL b0 w F v Ms) : ∃ a c, v = .slice a Ms.length c ∧ Ms.length ≤ c ∧ c ≤ 9223372036854775807 := by
  obtain ⟨Us, m1, m2, m3, m4⟩ := h
  rcases m2.2 with ⟨h, h0⟩ | ⟨g, cap, cur, h, _, _, h1, h2, _⟩
  · exact ⟨none, 0, by rw [h, h0], by omega, by omega⟩
  · exact ⟨_, cap, h, h1, by unfold maxLen at h2; omega⟩
theorem IdR.at {b0 : Nat} {F : List Nat} {w : World} {a : Option Addr} {c n : Nat} {Ms : List (Nat × List (List Nat))} (h : IdR b0 w F (.slice a n c) Ms) (hn : Ms.length = n) (k : Nat) (hk : k < n) : ∃ g, a = some ⟨g, 0, none⟩ ∧ w.cell? ⟨g, k, none⟩ = some (.int .i64 ((Ms.getD k (0, [])).1 : Int)) ∧ IdR b0 w F (.slice a (k + 1) c) (Ms.take (k + 1)) := by
  subst hn
  obtain ⟨g, c', cur, hv, _⟩ := owns_some h.1 (by omega)
  obtain ⟨rfl, rfl⟩ : a = some ⟨g, 0, none⟩ ∧ c = c' := by simpa using hv
  refine ⟨g, rfl, owns_cell h.1 k _ ?_, ?_, fun q hq => h.2 q hq⟩
  · simp [idV, List.getD_eq_getElem?_getD, hk]
  · have := owns_take h.1 (k + 1) hk
    rw [List.length_take, Nat.min_eq_left (by omega)]
    unfold idV at this ⊢
    rw [List.map_take]
    exact this
theorem MkL.at {b0 : Nat} {F : List Nat} {w : World} {a : Option Addr} {c n : Nat} {Ms : List (Nat × List (List Nat))} (h : MkL b0 w F (.slice a n c) Ms) (hn : Ms.length = n) (k : Nat) (hk : k < n) : ∃ g ua uc, a = some ⟨g, 0, none⟩ ∧ w.cell? ⟨g, k, none⟩ = some (.slice ua (Ms.getD k (0, [])).2.length uc) ∧ PgL w F (.slice ua (Ms.getD k (0, [])).2.length uc) (Ms.getD k (0, [])).2 ∧ MkL b0 w F (.slice a (k + 1) c) (Ms.take (k + 1)) := by
  subst hn
  obtain ⟨Us, m1, m2, m3, m4⟩ := h
  obtain ⟨g, c', cur, hv, _⟩ := owns_some m2 (by omega)
  obtain ⟨rfl, rfl⟩ : a = some ⟨g, 0, none⟩ ∧ c = c' := by simpa using hv
  have hU : Us[k]? = some (Us[k]'(by omega)) := by simp [show k < Us.length by omega]
  have hM : Ms[k]? = some (Ms.getD k (0, [])) := by simp [List.getD_eq_getElem?_getD, hk]
  have hp := m4 k _ _ hU hM
  obtain ⟨ua, uc, hue, _⟩ := hp.slice
  rw [hue] at hU hp
  refine ⟨g, ua, uc, rfl, owns_cell m2 k _ hU, hp, Us.take (k + 1), by rw [List.length_take, List.length_take, m1], ?_, fun q hq => m3 q hq, fun i u x hu hx => ?_⟩
  · have := owns_take m2 (k + 1) hk
    rw [List.length_take, Nat.min_eq_left (by omega)]
    exact this
  · rw [List.getElem?_take] at hu hx
    split at hu
    · rename_i hlt
      rw [if_pos hlt] at hx
      exact m4 i u x hu hx
    · cases hu
end H
end Go.Proofs.YtjimhikfmccicaaGreat
