/-
  The contract of Crash.
-/
import Derived.Test.YthkjjebghfcgkaaCr
import Derived.Test.YthkjjebghfcgkaaNe
namespace Go.Proofs.Ythkjjebghfcgkaa
open Go.RowKit Go.Maps

/-- What a crash tells of the first k files, and the picks left. -/
def crs (L : List FR) (ps : List Int) : Nat → List (ByteArray × List Nat) × List Int
  | 0 => ([], ps)
  | k + 1 => ((crs L ps k).1 ++ [((L.getD k z0).nm, (M.crash (L.getD k z0).safe (L.getD k z0).seen (crs L ps k).2).1)], (M.crash (L.getD k z0).safe (L.getD k z0).seen (crs L ps k).2).2)
theorem M.crash_pb (S N : List Nat) {ps : List Int} (h : M.PB ps) : M.PB (M.crash S N ps).2 := M.secs_pb S N (M.len1_pb S N h) _
theorem crs_pb (L : List FR) {ps : List Int} (h : M.PB ps) : ∀ k, M.PB (crs L ps k).2
  | 0 => h
  | k + 1 => M.crash_pb _ _ (crs_pb L h k)
def GC (x : GR) : List Value := [.string x.1, x.2.1]
def GCs (R : List GR) : List Value := R.flatMap GC
theorem GCs_snoc (R : List GR) (x : GR) : GCs (R ++ [x]) = GCs R ++ GC x := by simp [GCs]
theorem GCs_length (R : List GR) : (GCs R).length = R.length * 2 := by
  induction R with
  | nil => rfl
  | cons x R ih =>
    have e : GCs (x :: R) = GC x ++ GCs R := rfl
    rw [e, List.length_append, ih, List.length_cons]
    simp [GC]
    omega

/-- Files told: their row, and each one's bytes in a row of their own, from b0 on. -/
def Outs (w : World) (b0 : Nat) (v : Value) (R : List GR) : Prop :=
  w.ownsRow b0 46 2 v R.length (GCs R) ∧ (∀ x ∈ R, Rw w x.2.1 x.2.2 ∧ (∀ q, x.2.1.ownBlock = some q → b0 ≤ q ∧ v.ownBlock ≠ some q)) ∧ R.length ≤ 64

theorem Try.info46 : (Try.prog.info? 46).map (fun i => (i.zero, i.size, i.bytes)) = some (some (.agg #[.string ⟨#[]⟩, .slice none 0 0]), 2, 40) := by kernel_rfl
theorem info_parts2 {P : Program} {t : TypeId} {z : Value} {s b : Nat} (h : (P.info? t).map (fun i => (i.zero, i.size, i.bytes)) = some (some z, s, b)) : ∃ i, P.info? t = some i ∧ i.zero = some z ∧ i.size = s ∧ i.bytes = b := by
  obtain ⟨i, hi, he⟩ := Option.map_eq_some_iff.1 h
  simp at he
  exact ⟨i, hi, he.1, he.2.1, he.2.2⟩

theorem src_gr (w : World) (q : Nat) (nm : ByteArray) (a : Option Addr) (n c : Nat) {fr : Nat × Nat} (h : w.heap[q]? = some (.cells #[.string nm, .slice a n c] 46 fr)) :
    Src Try.prog 2 22 (.slice (some ⟨q, 0, none⟩) 1 1) 1 [.string nm, .slice a n c] w := by
  refine Src.ofSlice _ Try.underlying22 ⟨q, 0, none⟩ 1 1 _ rfl (fun j u hj => ?_) (fun u hu => ?_)
  · rw [Addr.add_lit, cell_of_row w q (0 + j) _ 46 fr h]
    simpa using hj
  · simp at hu
    rcases hu with rfl | rfl <;> rfl

theorem Outs.fr {w w' : World} {b0 : Nat} {v : Value} {R : List GR} (h : Outs w b0 v R) {fs : List Nat} (hF : Fr fs w w') (hn : ∀ k ∈ fs, k < b0 ∨ w.heap.size ≤ k) : Outs w' b0 v R := by
  obtain ⟨h1, h2, h3⟩ := h
  refine ⟨hF.owns h1 (fun k hk hm => ?_), fun x hx => ⟨hF.rw (h2 x hx).1 (fun k hk hm => ?_), (h2 x hx).2⟩, h3⟩
  · rcases h1.2 with ⟨rfl, _⟩ | ⟨g, cap, cur, rfl, hb, hg, _⟩
    · cases hk
    · have := own_is hk
      have := (Array.getElem?_eq_some_iff.1 hg).1
      have := hn k hm
      omega
  · have := (h2 x hx).1.lt k hk
    have := (h2 x hx).2 k hk
    have := hn k hm
    omega

theorem Outs.lt {w : World} {b0 : Nat} {v : Value} {R : List GR} (h : Outs w b0 v R) : ∀ k, v.ownBlock = some k → k < w.heap.size ∧ b0 ≤ k := by
  intro k hk
  rcases h.1.2 with ⟨rfl, _⟩ | ⟨g, cap, cur, rfl, hb, hg, _⟩
  · cases hk
  · have := own_is hk
    have := (Array.getElem?_eq_some_iff.1 hg).1
    omega

/-- One file more is told. -/
theorem put_gr {wf w3 : World} {b0 pk : Nat} {t : Value} {R : List GR} {l : List Nat} {a3 : Option Addr} {x3 : Nat} (hO : Outs wf b0 t R) (hk : R.length < 64) (hb : b0 ≤ wf.heap.size) (hpk : pk < b0) (f3 : Fr [pk] wf w3)
    (r3 : Rw w3 (.slice a3 l.length x3) l) (n3 : ∀ q, (Value.slice a3 l.length x3).ownBlock = some q → wf.heap.size ≤ q) (nm : ByteArray) :
    ∃ v' w', (Builtin.append_ #[22, 22] 22 #[t, .slice (some ⟨w3.heap.size, 0, none⟩) 1 1]).run Try.prog (w3.alloc (.cells #[.string nm, .slice a3 l.length x3] 46)) = .ok v' w' ∧ ((∃ a c, v' = .slice a (R.length + 1) c) ∧ Outs w' b0 v' (R ++ [(nm, .slice a3 l.length x3, l)]) ∧ Fr t.ownBlock.toList w3 w') := by
  obtain ⟨i0, hi, hz0, hz1, hz2⟩ := info_parts2 Try.info46
  have hO3 := hO.fr f3 (fun k hk => by simp at hk; omega)
  have hz3 := f3.2.1
  have hb4 : Below w3.heap.size w3 (w3.alloc (.cells #[.string nm, .slice a3 l.length x3] 46)) := (Below.refl _ _).alloc (Nat.le_refl _) _
  have hO4 := hO3.fr (Fr.of_below (fs := []) hb4) (by simp)
  obtain ⟨v', w', hr, ho, hg, hbk⟩ := run_append_src (P := Try.prog) _ b0 22 22 22 46 i0 _ 2 40 Try.underlying22 hi hz0 hz1 hz2 rfl t R.length _ hO4.1 (.slice (some ⟨w3.heap.size, 0, none⟩) 1 1) 1 [.string nm, .slice a3 l.length x3] (src_gr _ _ nm a3 l.length x3 (heap_alloc_new w3 _)) (by unfold maxLen; omega) (by omega) (by simp; omega)
  have hF4 := Fr.of_grown hg
  refine ⟨v', w', hr, ?_, ⟨?_, fun x hx => ?_, by simp; omega⟩, (Fr.of_below (fs := t.ownBlock.toList) hb4).trans hF4 (fun k hk => .inl hk)⟩
  · rcases ho.2 with ⟨_, h0⟩ | ⟨g, cap, cur, hv, _⟩
    · omega
    · exact ⟨_, _, hv⟩
  · rw [List.length_append, GCs_snoc]
    exact ho
  · rcases List.mem_append.1 hx with hx | hx
    · refine ⟨hF4.rw (hO4.2.1 x hx).1 (fun k hk hm => (hO4.2.1 x hx).2 k hk |>.2 (by simpa using hm)), fun q hq => ⟨((hO4.2.1 x hx).2 q hq).1, ?_⟩⟩
      rcases hbk with h | h
      · rw [h]; exact ((hO4.2.1 x hx).2 q hq).2
      · rw [h]
        have := (hO4.2.1 x hx).1.lt q hq
        rw [World.size_alloc] at this
        simp
        omega
    · obtain rfl : x = (nm, .slice a3 l.length x3, l) := by simpa using hx
      have hne : ∀ q, (Value.slice a3 l.length x3).ownBlock = some q → t.ownBlock ≠ some q := fun q hq he => by
        have := n3 q hq
        have := (hO.lt q he).1
        omega
      refine ⟨hF4.rw ((Fr.of_below (fs := []) hb4).rw r3 (by simp)) (fun k hk hm => hne k hk (by simpa using hm)), fun q hq => ⟨by have := n3 q hq; omega, ?_⟩⟩
      rcases hbk with h | h
      · rw [h]; exact hne q hq
      · rw [h]
        have := r3.lt q hq
        simp
        omega

def gab (g : GR) : ByteArray × List Nat := (g.1, g.2.2)
/-- What stands at a round of Crash. -/
def CrI (w : World) (L : List FR) (ps : List Int) (k : Nat) (t : Value) (R : List GR) (wr : World) : Prop :=
  R.length = k ∧ Outs wr (w.heap.size + 1) t R ∧ R.map gab = (crs L ps k).1 ∧ Picks wr w.heap.size w.heap.size (crs L ps k).2 ∧ Below w.heap.size w wr

theorem Dk.file {w : World} {D mb : Nat} {v : Value} {L : List FR} {f : Int → Int} {s : Int} {off : Bool} (h : Dk w D mb v L f s off) {k : Nat} (hk : k < L.length) :
    ∃ a1 c1 a2 c2, (L.getD k z0).sv = .slice a1 (L.getD k z0).safe.length c1 ∧ (L.getD k z0).nv = .slice a2 (L.getD k z0).seen.length c2 ∧ Sees w (.slice a1 (L.getD k z0).safe.length c1) (L.getD k z0).safe ∧ Sees w (.slice a2 (L.getD k z0).seen.length c2) (L.getD k z0).seen ∧
      (L.getD k z0).safe.length ≤ c1 ∧ (L.getD k z0).seen.length ≤ c2 ∧ c1 ≤ 9223372036854775807 ∧ c2 ≤ 9223372036854775807 ∧ (L.getD k z0).safe.length ≤ 4194304 ∧ (L.getD k z0).seen.length ≤ 4194304 := by
  obtain ⟨p, q⟩ := h.2.2.1 _ (getD_mem L hk)
  obtain ⟨a1, c1, e1, l1, m1⟩ := p.slice
  obtain ⟨a2, c2, e2, l2, m2⟩ := q.slice
  exact ⟨a1, c1, a2, c2, e1, e2, e1 ▸ p.sees, e2 ▸ q.sees, l1, l2, m1, m2, p.2, q.2⟩
theorem Sees.lt {w : World} {x : Addr} {n c : Nat} {l : List Nat} (h : Sees w (.slice (some x) n c) l) (h1 : 1 ≤ l.length) : x.block < w.heap.size := by
  obtain ⟨⟨a, cap, e, hc⟩, _⟩ := h
  obtain ⟨b, o, rfl, hj⟩ := hc h1
  obtain ⟨e1, _⟩ := by simpa using e
  rw [e1]
  exact World.block_lt_of_cell? _ _ (hj 0 (by omega))

set_option maxRecDepth 100000 in
set_option maxHeartbeats 2000000 in
theorem crash_all {w : World} {D mb : Nat} {v : Value} {L : List FR} {f : Int → Int} {s : Int} {off : Bool} (h : Dk w D mb v L f s off) (pv : Value) (ps : List Int) (hI : Ins w pv ps) (hlt : ∀ a n c, pv = .slice (some a) n c → 1 ≤ n → a.block < w.heap.size) (hPB : M.PB ps) :
    Calls Try.prog 23 #[.pointer (some ⟨D, 0, none⟩), pv] w fun e w' => ∃ t R, e = .returned t ∧ Outs w' (w.heap.size + 1) t R ∧ R.map gab = (crs L ps L.length).1 ∧ Below w.heap.size w w' := by
  obtain ⟨c0, _, _, _, hfz⟩ := h.cells
  have HD := Hid.mk' h
  have hl16 := h.2.1.2
  obtain ⟨pa, pc, rfl, _, _, _⟩ := id hI
  have hP0 : Picks (w.alloc (.cells #[.slice pa ps.length pc] 106)) w.heap.size w.heap.size ps := by
    have hnew := heap_alloc_new w (.cells #[.slice pa ps.length pc] 106)
    refine ⟨_, by simp, by simp only [World.frozen?, hnew]; rfl, hI.on1 (Fr.of_alloc (fs := []) w _) (by simp), fun a n c e hn => ?_⟩
    have := hlt a n c e hn
    omega
  obtain ⟨va, vc, rfl, hc, hcm, hrow⟩ := owns_files h.2.1.1
  have hw1 : Below w.heap.size w (w.alloc (.cells #[.slice pa ps.length pc] 106)) := (Below.refl _ _).alloc (Nat.le_refl _) _
  have e0 := cell_on (hw1.alloc (by simp) (.cells #[] 46)) c0
  have HI0 : Hid (CrI w L ps 0 (.slice (some ⟨w.heap.size + 1, 0, none⟩) 0 0) [] ((w.alloc (.cells #[.slice pa ps.length pc] 106)).alloc (.cells #[] 46))) := by
    refine ⟨rfl, ⟨⟨by simp [GCs], .inr ⟨w.heap.size + 1, 0, #[], rfl, Nat.le_refl _, ?_, Nat.le_refl _, by unfold maxLen; omega, by simp, by simp [GCs]⟩⟩, by simp, by simp⟩, rfl, hP0.on ((Below.refl _ _).alloc (Nat.le_refl _) _), hw1.alloc (by simp) _⟩
    have := heap_alloc_new (w.alloc (.cells #[.slice pa ps.length pc] 106)) (.cells #[] 46)
    rw [World.size_alloc] at this
    exact this
  clear hI hlt hP0 hw1 h c0 hfz
  go_enter Try.func23, Try.ntmps23
  go_wp2
  go_loopw [6, 18] (fun t i wr => ∃ (k : Nat) (R : List GR), k ≤ L.length ∧ i = .int .i64 k ∧ (∃ a c, t = .slice a k c) ∧ CrI w L ps k t R wr) (fun _ i _ => L.length - (intOf i).toNat)
  case atStart => exact ⟨0, [], by omega, rfl, ⟨_, _, rfl⟩, HI0.out⟩
  case round =>
    clear HI0 e0
    obtain ⟨k, R, hk, rfl, ⟨ta, tc, rfl⟩, hRl, hO, hRm, hPk, hb⟩ := hrel
    have hsz := hb.size
    by_cases hlt : k < L.length
    · obtain ⟨g, rfl, hrw⟩ := hrow (by omega)
      obtain ⟨r0, r1, r2, _⟩ := hrw k hlt
      replace r0 := cell_on hb r0
      replace r1 := cell_on hb r1
      replace r2 := cell_on hb r2
      obtain ⟨a1, c1, a2, c2, hsv, hnv, s1, s2, q1, q2, q3, q4, q5, q6⟩ := HD.out.file hlt
      rw [hsv] at r1
      rw [hnv] at r2
      have hcs : (crs L ps (k + 1)) = ((crs L ps k).1 ++ [((L.getD k z0).nm, (M.crash (L.getD k z0).safe (L.getD k z0).seen (crs L ps k).2).1)], (M.crash (L.getD k z0).safe (L.getD k z0).seen (crs L ps k).2).2) := rfl
      have hpbk := crs_pb L hPB k
      generalize (L.getD k z0).nm = nm at *
      generalize (L.getD k z0).safe = S at *
      generalize (L.getD k z0).seen = N at *
      generalize (crs L ps k).2 = pk1 at *
      clear hsv hnv hrw hrow
      have hw1 : Below wr.heap.size wr (wr.alloc (.cells #[.string nm, .slice a1 S.length c1, .slice a2 N.length c2] 72)) := (Below.refl _ _).alloc (Nat.le_refl _) _
      have hb1 : Below w.heap.size w (wr.alloc (.cells #[.string nm, .slice a1 S.length c1, .slice a2 N.length c2] 72)) := hb.alloc hsz _
      have HO := Hid.mk' (hO.fr (Fr.of_below (fs := []) hw1) (by simp))
      have HRm := Hid.mk' hRm
      have HTL : Hid (∀ q, (Value.slice ta k tc).ownBlock = some q → q ≠ wr.heap.size) := fun q hq => by have := (hO.lt q hq).1; omega
      have HCs := Hid.mk' hcs
      have HB1 := Hid.mk' hb1
      have hl1 : w.heap.size < wr.heap.size := by
        obtain ⟨_, h1, _⟩ := hPk
        exact World.block_lt_of_cell? _ _ h1
      have HCR := Hid.mk' (crash_any wr.heap.size w.heap.size w.heap.size a1 a2 c1 c2 S N pk1 (wr.alloc (.cells #[.string nm, .slice a1 S.length c1, .slice a2 N.length c2] 72)).drew (by simp) (by simp)
        ((s1.below hb1).drew) ((s2.below hb1).drew) q1 q2 q3 q4 q5 q6 (hPk.fr (fs := []) ((Fr.of_below (fs := []) hw1).drew) (by simp) (by simp)) hpbk (by omega) (by simp; omega)
        (fun x hx hn => by (subst hx); have := s1.lt hn; omega) (fun x hx hn => by (subst hx); have := s2.lt hn; omega))
      clear hO hRm hcs hb1 hPk s1 s2 hpbk hb
      have q0 : (wr.alloc (.cells #[.string nm, .slice a1 S.length c1, .slice a2 N.length c2] 72)).cell? ⟨wr.heap.size, 0, none⟩ = some (.string nm) := by simp
      go_wp2_with fail
      refine wp_region_held_drew (S := (fun w' : World => w'.cell? ⟨wr.heap.size, 0, none⟩ = some (.string nm))) (by kernel_rfl) (q0) (fun hS => ?_)
      refine wpAnyH_take (i := 0) (v := ?_) rfl (by kernel_rfl) (by kernel_rfl) (by kernel_rfl) (fun _ _ _ h => h) (Or.inl ⟨by rfl, ?_⟩) hS ?_
      rotate_left
      · (intro w hSw; (try dsimp only at hSw); go_simp; try (with_reducible rfl))
      try simp only [Act.put, List.setIfInBounds_toArray]
      refine wpAnyH_take (i := 1) (v := ?_) rfl (by kernel_rfl) (by kernel_rfl) (by kernel_rfl) (fun _ _ _ h => h) (Or.inl ⟨by rfl, ?_⟩) hS ?_
      rotate_left
      · (intro w hSw; (try dsimp only at hSw); go_simp; try (with_reducible rfl))
      try simp only [Act.put]
      refine wpAnyH_take (i := 2) (v := ?_) rfl (by kernel_rfl) (by kernel_rfl) (by kernel_rfl) (fun _ _ _ h => h) (Or.inl ⟨by rfl, ?_⟩) hS ?_
      rotate_left
      · (intro w hSw; (try dsimp only at hSw); go_simp; try (with_reducible rfl))
      try simp only [Act.put]
      refine wpAnyH_take (i := 3) (v := ?_) rfl (by kernel_rfl) (by kernel_rfl) (by kernel_rfl) (fun _ _ _ h => h) (Or.inl ⟨by rfl, ?_⟩) hS ?_
      rotate_left
      · (intro w hSw; (try dsimp only at hSw); go_simp; try (with_reducible rfl))
      try simp only [Act.put]
      refine wpAnyH_ready (rs := [4]) (by kernel_rfl) (by simp) ?_
      refine (AllReadyH.cons rfl (fun K hK => ?_) AllReadyH.nil)
      go_simp
      go_wp2_with (go_at_call 61; refine HCR.out.mono ?_; rintro e' w3 ⟨v3, rfl, r3, n3, p3, f3⟩; obtain ⟨a3, x3, rfl, _, _⟩ := r3.slice)
      refine hK.out _ _ (f3.cell hS (by simp; omega)) (fun hS => ?_)
      clear hK K
      try simp only [Act.put, List.setIfInBounds_toArray, List.set_cons_zero, List.set_cons_succ]
      refine wpAnyH_take (i := 5) (v := ?_) rfl (by kernel_rfl) (by kernel_rfl) (by kernel_rfl) (fun _ _ _ h => h) (Or.inl ⟨by rfl, ?_⟩) hS ?_
      rotate_left
      · (intro w hSw; (try dsimp only at hSw); go_simp; try (with_reducible rfl))
      try simp only [Act.put, List.setIfInBounds_toArray]
      refine wpAnyH_ready (rs := [6]) (by kernel_rfl) (by simp) ?_
      refine (AllReadyH.cons rfl (fun K hK => ?_) AllReadyH.nil)
      go_simp
      have b4 := (Below.refl w3.heap.size w3).alloc (Nat.le_refl _) (.cells #[.string nm, .slice a3 (M.crash S N pk1).1.length x3] 46)
      refine hK.out _ _ (cell_on b4 hS) (fun hS => ?_)
      clear hK K
      try simp only [Act.put, List.setIfInBounds_toArray, List.set_cons_zero, List.set_cons_succ]
      refine wpAnyH_ready (rs := [7]) (by kernel_rfl) (by simp) ?_
      refine (AllReadyH.cons rfl (fun K hK => ?_) AllReadyH.nil)
      subst hRl
      refine step_append_ex (by rfl) _ _ 22 (by rfl) _ _ (by rfl) (by rfl) (put_gr HO.out (by omega) (by simp; omega) (Nat.lt_succ_self w.heap.size) (show Fr [w.heap.size] (wr.alloc (.cells #[.string nm, .slice a1 S.length c1, .slice a2 N.length c2] 72)) w3 from f3) r3 n3 nm) ?_
      rintro v5 w5 ⟨⟨a5, x5, rfl⟩, ho5, hf5⟩
      refine hK.out _ _ (hf5.cell (f3.cell q0 (by simp; omega)) (fun hm => HTL.out _ (by simpa using hm) rfl)) (fun hS => ?_)
      clear hK K
      try simp only [Act.put, List.setIfInBounds_toArray]
      refine wpAnyH_take (i := 8) (v := ?_) rfl (by kernel_rfl) (by kernel_rfl) (by kernel_rfl) (fun _ _ _ h => h) (Or.inl ⟨by rfl, ?_⟩) hS ?_
      rotate_left
      · (intro w hSw; (try dsimp only at hSw); go_simp; try (with_reducible rfl))
      try simp only [Act.put]
      refine wpAnyH_done (by kernel_rfl) ?_ _
      have HI5 : Hid (CrI w L ps (R.length + 1) (.slice a5 (R.length + 1) x5) (R ++ [(nm, .slice a3 (M.crash S N pk1).1.length x3, (M.crash S N pk1).1)]) w5) := by
        refine ⟨by simp, ho5, by rw [List.map_append, HRm.out, HCs.out]; rfl, ?_, ?_⟩
        · rw [HCs.out]; exact p3.fr hf5 (fun hm => by have := (HO.out.lt _ (by simpa using hm)).2; omega) (fun q hq => by have := (HO.out.lt q (by simpa using hq)).2; omega)
        · exact (HB1.out.trans ((show Fr [w.heap.size] (wr.alloc (.cells #[.string nm, .slice a1 S.length c1, .slice a2 N.length c2] 72)) w3 from f3).below HB1.out.size (by simp))).trans (hf5.below (Nat.le_trans HB1.out.size f3.2.1) (fun q hq => by have := (HO.out.lt q (by simpa using hq)).2; omega))
      clear ho5 hf5 p3 f3 r3 n3 HO HB1 HRm HCs HCR b4 q0 hS
      go_wp2
      go_roundw
      case rel => exact ⟨R.length + 1, _, by omega, by go_num, ⟨_, _, rfl⟩, HI5.out⟩
      case measure => simp [intOf]; omega
    · obtain rfl : k = L.length := by omega
      have HO := Hid.mk' hO
      clear hO hPk
      go_wp2
      go_ret
      exact ⟨_, R, rfl, HO.out, hRm, hb⟩
end Go.Proofs.Ythkjjebghfcgkaa
