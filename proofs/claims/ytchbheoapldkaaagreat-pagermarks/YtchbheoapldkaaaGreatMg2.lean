/-
  The contracts of stroke: with the power off, refused, done.
  A file put behind a disk's files.
  The contracts of bytes.Clone, of areTroubles and of areFiles; files and troubles that are handed in.
-/
import Derived.Test.YtchbheoapldkaaaGreatMg1
import Derived.Test.YtchbheoapldkaaaGreatSz
namespace Go.Proofs.YtchbheoapldkaaaGreat
open Go.RowKit Go.Maps

theorem Dk.mem {w : World} {D mb : Nat} {v : Value} {L : List FR} {f : Int → Int} {s : Int} {off : Bool} (h : Dk w D mb v L f s off) : D ∈ foot D mb v L ∧ D ≠ mb ∧ v.ownBlock ≠ some D ∧ D ∉ feet L := by
  have h5 := h.2.2.2.2
  simp only [foot, List.nodup_cons, List.mem_cons, List.mem_append, not_or] at h5
  obtain ⟨⟨a, b, c⟩, _⟩ := h5
  exact ⟨by simp [foot], a, fun e => b (by simp [e]), c⟩

/-- The disk's own cells laid anew. -/
theorem Dk.own {w w' : World} {D mb : Nat} {v : Value} {L : List FR} {f : Int → Int} {s s' : Int} {off off' : Bool} (h : Dk w D mb v L f s off) (hF : Fr [D] w w') (hc : w'.heap[D]? = some (.cells #[v, .map (some mb), .int .i64 s', .bool off'] 84 (0, 0))) : Dk w' D mb v L f s' off' := by
  obtain ⟨hD, hDm, hDv, hDf⟩ := h.mem
  obtain ⟨h1, h2, h3, ⟨n, hle, h4⟩, h5⟩ := h
  refine ⟨hc, ⟨hF.owns h2.1 (fun k hk hm => ?_), h2.2⟩, fun x hx => ?_, ⟨n, hle, hF.mp h4 (fun hm => by simp at hm; exact hDm hm.symm)⟩, h5⟩
  · simp at hm; subst hm; exact hDv hk
  · obtain ⟨a, b⟩ := h3 x hx
    have hnf : ∀ k, k ∈ feet1 x → k ∉ [D] := fun k hk hm => by
      simp at hm; subst hm
      exact hDf (List.mem_flatMap.2 ⟨x, hx, hk⟩)
    exact ⟨hF.rw a (fun k hk => hnf k (by simp [feet1, hk])), hF.rw b (fun k hk => hnf k (by simp [feet1, hk]))⟩

/-- One stroke more. -/
theorem Dk.stroked {w : World} {D mb : Nat} {v : Value} {L : List FR} {f : Int → Int} {s : Int} {off : Bool} (h : Dk w D mb v L f s off) (s' : Int) : Dk (w.setCell ⟨D, 2, none⟩ (.int .i64 s')) D mb v L f s' off ∧ Fr (foot D mb v L) w (w.setCell ⟨D, 2, none⟩ (.int .i64 s')) :=
  ⟨h.own (Fr.of_set w ⟨D, 2, none⟩ _) (by rw [heap_setCell_same w D 2 _ _ _ h.1]; rfl), (Fr.of_set w ⟨D, 2, none⟩ _).mono (fun k hk => .inl (by simp at hk; subst hk; exact h.mem.1))⟩
/-- The power goes off. -/
theorem Dk.dark {w : World} {D mb : Nat} {v : Value} {L : List FR} {f : Int → Int} {s : Int} {off : Bool} (h : Dk w D mb v L f s off) : Dk (w.setCell ⟨D, 3, none⟩ (.bool true)) D mb v L f s true ∧ Fr (foot D mb v L) w (w.setCell ⟨D, 3, none⟩ (.bool true)) :=
  ⟨h.own (Fr.of_set w ⟨D, 3, none⟩ _) (by rw [heap_setCell_same w D 3 _ _ _ h.1]; rfl), (Fr.of_set w ⟨D, 3, none⟩ _).mono (fun k hk => .inl (by simp at hk; subst hk; exact h.mem.1))⟩

set_option maxRecDepth 100000 in
set_option maxHeartbeats 400000 in
/-- In the dark a stroke is counted, and told ErrIO. -/
theorem stroke_off {w : World} {D mb : Nat} {v : Value} {L : List FR} {f : Int → Int} {s : Int} (h : Dk w D mb v L f s true) (hs : 0 ≤ s ∧ s ≤ 1000000) (u : Value) :
    Calls Tryz.prog 128 #[.pointer (some ⟨D, 0, none⟩), u] w fun e w' => e = .returned (.int .i64 9) ∧ Turned w D mb v L f (s + 1) true L w' := by
  obtain ⟨c0, c1, c2, c3, hf⟩ := h.cells
  obtain ⟨h1, h2⟩ := h.stroked (s + 1)
  have H1 : Hid (Turned w D mb v L f (s + 1) true L (w.setCell ⟨D, 2, none⟩ (.int .i64 (s + 1)))) := ⟨h1, h2, fun k hk => .inl hk⟩
  obtain ⟨d0, d1, d2, d3, df⟩ := h1.cells
  have hf2 := hf 2
  clear h1 h2 h hf df d0 d1 d2
  go_enter Tryz.func128, Tryz.ntmps128
  go_wp2
  go_ret
  exact ⟨rfl, H1.out⟩

set_option maxRecDepth 100000 in
set_option maxHeartbeats 1000000 in
/-- A stroke with a trouble that refuses it. -/
theorem stroke_no {w : World} {D mb : Nat} {v : Value} {L : List FR} {f : Int → Int} {s : Int} (h : Dk w D mb v L f s false) (hs : 0 ≤ s ∧ s ≤ 1000000) (u : Value) (hk : f (s + 1) = 1 ∨ f (s + 1) = 2) :
    Calls Tryz.prog 128 #[.pointer (some ⟨D, 0, none⟩), u] w fun e w' => e = .returned (.int .i64 (if f (s + 1) = 1 then 9 else 10)) ∧ Turned w D mb v L f (s + 1) false L w' := by
  obtain ⟨c0, c1, c2, c3, hf⟩ := h.cells
  obtain ⟨h1, h2⟩ := h.stroked (s + 1)
  have H1 : Hid (Turned w D mb v L f (s + 1) false L (w.setCell ⟨D, 2, none⟩ (.int .i64 (s + 1)))) := ⟨h1, h2, fun k hk => .inl hk⟩
  obtain ⟨d0, d1, d2, d3, df⟩ := h1.cells
  obtain ⟨n, _, hm⟩ := h1.2.2.2.1
  have hlook : ∀ q, (Instr.lookup 81 (.map (some mb)) (.int .i64 (s + 1)) false).run Tryz.prog ((w.setCell ⟨D, 2, none⟩ (.int .i64 (s + 1))).drewN q) = .ok (.int .i64 (f (s + 1))) ((w.setCell ⟨D, 2, none⟩ (.int .i64 (s + 1))).drewN q) := fun q => ((Fr.refl [] _).drewN q |>.mp hm (by simp)).look (by simp [Lit.wf, IntKind.min, IntKind.max, IntKind.signed, IntKind.bits]; omega)
  have hf2 := hf 2
  clear h2 h hf df hm
  generalize f (s + 1) = k at *
  go_enter Tryz.func128, Tryz.ntmps128
  go_wp2_with fail
  go_quiet (fail)
  rcases hk with rfl | rfl
  · go_wp2
    go_ret
    exact ⟨rfl, H1.out⟩
  · go_wp2
    go_ret
    exact ⟨rfl, H1.out⟩
end Go.Proofs.YtchbheoapldkaaaGreat
namespace Go.Proofs.YtchbheoapldkaaaGreat
open Go.RowKit Go.Maps

theorem Tryz.info87 : (Tryz.prog.info? 87).map (fun i => (i.zero, i.size, i.bytes)) = some (some (.agg #[.string ⟨#[]⟩, .slice none 0 0, .slice none 0 0]), 3, 64) := by kernel_rfl

/-- What a call leaves that moves the files. -/
def Moved (w : World) (D mb : Nat) (v : Value) (L : List FR) (f : Int → Int) (s : Int) (off : Bool) (v' : Value) (L' : List FR) (w' : World) : Prop :=
  Dk w' D mb v' L' f s off ∧ Fr (foot D mb v L) w w' ∧ ∀ k ∈ foot D mb v' L', k ∈ foot D mb v L ∨ w.heap.size ≤ k

theorem oneCell_rw {w : World} {v : Value} {l : List Nat} (h : Rw w v l) : v.oneCell' = true := by
  obtain ⟨a, c, rfl, _⟩ := h.slice
  rfl

theorem src_file (w : World) (q : Nat) (x : FR) (fr : Nat × Nat) (hq : w.heap[q]? = some (.cells #[.string x.nm, x.sv, x.nv] 87 fr)) (h1 : x.sv.oneCell' = true) (h2 : x.nv.oneCell' = true) :
    Src Tryz.prog 3 82 (.slice (some ⟨q, 0, none⟩) 1 1) 1 (FC x) w := by
  refine Src.ofSlice _ Tryz.underlying82 ⟨q, 0, none⟩ 1 1 _ rfl (fun j u hj => ?_) (fun u hu => ?_)
  · rw [Addr.add_lit, Nat.zero_add, cell_of_row w q j _ 87 fr hq]
    match j, hj with
    | 0, hj => exact hj
    | 1, hj => exact hj
    | 2, hj => exact hj
  · simp [FC] at hu
    rcases hu with rfl | rfl | rfl
    · rfl
    · exact h1
    · exact h2

theorem Dk.push {w w1 : World} {D mb : Nat} {v : Value} {L : List FR} {f : Int → Int} {s : Int} {off : Bool} (h : Dk w D mb v L f s off) (x : FR) (hb : Below w.heap.size w w1) (hsv : Rw w1 x.sv x.safe) (hnv : Rw w1 x.nv x.seen)
    (hnew : ∀ k ∈ feet1 x, w.heap.size ≤ k) (hnd : (feet1 x).Nodup) (hl : L.length < 16) {q : Nat} {fr : Nat × Nat} (hq : w1.heap[q]? = some (.cells #[.string x.nm, x.sv, x.nv] 87 fr)) :
    ∃ v' w2, (Builtin.append_ #[82, 82] 82 #[v, .slice (some ⟨q, 0, none⟩) 1 1]).run Tryz.prog w1 = .ok v' w2 ∧ (∃ a c, v' = .slice a (L.length + 1) c) ∧
      w2.cell? ⟨D, 0, none⟩ = some v ∧ w2.frozen? ⟨D, 0, none⟩ = false ∧ Moved w D mb v L f s off v' (L ++ [x]) (w2.setCell ⟨D, 0, none⟩ v') ∧ (∀ n f', Mp w mb n f' → Mp (w2.setCell ⟨D, 0, none⟩ v') mb n f') ∧ (∀ a u, w.cell? a = some u → v.ownBlock ≠ some a.block → w2.cell? a = some u) := by
  have h1 := h.on hb
  have hlt := h.lt
  have hlt1 := h1.lt
  obtain ⟨hDm, hDmb, hDv, hDf⟩ := h.mem
  obtain ⟨i0, hi, hz0, hz1, hz2⟩ := info_parts Tryz.info87
  obtain ⟨v', w2, hr, ho, hg, hbk⟩ := run_append_src (P := Tryz.prog) w1 0 82 82 82 87 i0 _ 3 64 Tryz.underlying82 hi hz0 hz1 hz2 rfl v L.length _ h1.2.1.1 _ 1 (FC x)
    (src_file w1 q x fr hq (oneCell_rw hsv) (oneCell_rw hnv)) (by unfold maxLen; omega) (by omega) (Nat.zero_le _)
  have hF : Fr v.ownBlock.toList w1 w2 := Fr.of_grown hg
  have hsl : ∃ a c, v' = .slice a (L.length + 1) c := by
    rcases ho.2 with ⟨rfl, h0⟩ | ⟨g, cap, cur, rfl, _⟩
    · omega
    · exact ⟨_, _, rfl⟩
  have hDh : w2.heap[D]? = w1.heap[D]? := hF.2.2 D (hlt1 D h1.mem.1) (fun hm => hDv (by simpa using hm))
  have hc2 : w2.heap[D]? = some (.cells #[v, .map (some mb), .int .i64 s, .bool off] 84 (0, 0)) := hDh.trans h1.1
  have hmpk : ∀ n f', Mp w mb n f' → Mp (w2.setCell ⟨D, 0, none⟩ v') mb n f' := by
    intro n f' hm
    have h6 := List.nodup_cons.1 (List.nodup_cons.1 h.2.2.2.2).2
    exact (Fr.of_set w2 ⟨D, 0, none⟩ v').mp (hF.mp ((Fr.of_below (fs := []) hb).mp hm (by simp)) (fun hm => h6.1 (by simp at hm; simp [hm]))) (fun hm => by simp at hm; exact hDmb hm.symm)
  refine ⟨v', w2, hr, hsl, ?_, ?_, ?_, hmpk, fun a u hc hne => hF.cell (cell_on hb hc) (fun hm => hne (by simpa using hm))⟩
  · rw [cell_of_row w2 D 0 _ 84 (0, 0) hc2]; rfl
  · simp [World.frozen?, hc2]
  · have hS := Fr.of_set w2 ⟨D, 0, none⟩ v'
    have hvb : ∀ k, v.ownBlock = some k → k ∈ foot D mb v L := fun k hk => by simp [foot, hk]
    have hv'b : ∀ k, v'.ownBlock = some k → (v.ownBlock = some k) ∨ k = w1.heap.size := fun k hk => by
      rcases hbk with e | e
      · left; rw [← e]; exact hk
      · right; rw [e] at hk; simpa using hk.symm
    have hfe : feet (L ++ [x]) = feet L ++ feet1 x := by rw [feet_append]; simp [feet]
    have hxlt : ∀ k ∈ feet1 x, k < w1.heap.size := fun k hk => by
      rcases List.mem_append.1 hk with hk | hk
      · exact (hsv.1.lt k (by simpa using hk)).2
      · exact (hnv.1.lt k (by simpa using hk)).2
    have hDne : ∀ k, v'.ownBlock = some k → k ≠ D := fun k hk e => by
      rcases hv'b k hk with h2 | h2
      · exact hDv (by rw [h2, e])
      · have := hlt1 D h1.mem.1; omega
    have h5 := h.2.2.2.2
    have hsub : ∀ k ∈ foot D mb v' (L ++ [x]), k ∈ foot D mb v L ∨ w.heap.size ≤ k := by
      intro k hk
      simp only [foot, List.mem_cons, List.mem_append, hfe] at hk ⊢
      rcases hk with hk | hk | hk | hk | hk
      · simp [hk]
      · simp [hk]
      · rcases hv'b k (by simpa using hk) with h2 | h2
        · left; simp [h2]
        · right; have := hb.size; omega
      · simp [hk]
      · right; exact hnew k hk
    refine ⟨⟨?_, ⟨?_, by simp; omega⟩, fun y hy => ?_, ?_, ?_⟩, ?_, hsub⟩
    · rw [heap_setCell_same w2 D 0 _ _ _ hc2]; rfl
    · rw [FCs_append, List.length_append]
      have e : FCs [x] = FC x := by simp [FCs]
      rw [e]
      exact hS.owns ho (fun k hk hm => by simp at hm; exact hDne k hk hm)
    · have hyf : ∀ k, k ∈ feet1 y → k ≠ D ∧ v.ownBlock ≠ some k := by
        intro k hk
        rcases List.mem_append.1 hy with hy | hy
        · have hkf : k ∈ feet L := List.mem_flatMap.2 ⟨y, hy, hk⟩
          refine ⟨fun e => hDf (e ▸ hkf), fun e => ?_⟩
          have h6 := (List.nodup_cons.1 (List.nodup_cons.1 h5).2).2
          exact (List.nodup_append.1 h6).2.2 k (by simp [e]) k hkf rfl
        · have e : y = x := by simpa using hy
          subst e
          have h7 := hnew k hk
          exact ⟨fun e => by have := hlt D hDm; omega, fun e => by have := hlt k (hvb k e); omega⟩
      have hold : Rw w1 y.sv y.safe ∧ Rw w1 y.nv y.seen := by
        rcases List.mem_append.1 hy with hy | hy
        · exact h1.2.2.1 y hy
        · have e : y = x := by simpa using hy
          subst e
          exact ⟨hsv, hnv⟩
      have step : ∀ u l, Rw w1 u l → (∀ k, u.ownBlock = some k → k ∈ feet1 y) → Rw (w2.setCell ⟨D, 0, none⟩ v') u l := fun u l hu hin =>
        hS.rw (hF.rw hu (fun k hk hm => (hyf k (hin k hk)).2 (by simpa using hm))) (fun k hk hm => (hyf k (hin k hk)).1 (by simpa using hm))
      exact ⟨step _ _ hold.1 (fun k hk => by simp [feet1, hk]), step _ _ hold.2 (fun k hk => by simp [feet1, hk])⟩
    · obtain ⟨n, hle, hm⟩ := h1.2.2.2.1
      have h6 := List.nodup_cons.1 (List.nodup_cons.1 h5).2
      refine ⟨n, hle, hS.mp (hF.mp hm (fun hm => h6.1 (by simp at hm; simp [hm]))) (fun hm => by simp at hm; exact hDmb hm.symm)⟩
    · have h6 := List.nodup_cons.1 h5
      have h7 := List.nodup_cons.1 h6.2
      have h8 := List.nodup_append.1 h7.2
      have hfl : ∀ k ∈ feet L, k < w.heap.size := fun k hk => hlt k (by simp [foot, hk])
      have hmbl := hlt mb (by simp [foot])
      have hDl := hlt D hDm
      have hbs := hb.size
      simp only [foot, hfe, List.nodup_cons, List.mem_cons, List.mem_append, not_or]
      refine ⟨⟨hDmb, ?_, hDf, fun e => by have := hnew D e; omega⟩, ⟨?_, ?_, fun e => by have := hnew mb e; omega⟩, ?_⟩
      · intro hm; exact hDne D (by simpa using hm) rfl
      · intro hm
        rcases hv'b mb (by simpa using hm) with h2 | h2
        · exact h7.1 (by simp [h2])
        · omega
      · intro hm; exact h7.1 (by simp [hm])
      · rw [List.nodup_append]
        refine ⟨?_, ?_, ?_⟩
        · cases v'.ownBlock <;> simp
        · rw [List.nodup_append]
          exact ⟨h8.2.1, hnd, fun a ha b hb' e => by have := hfl a ha; have := hnew b hb'; omega⟩
        · intro a ha b hb' e
          subst e
          rcases hv'b a (by simpa using ha) with h2 | h2
          · rcases List.mem_append.1 hb' with h3 | h3
            · exact h8.2.2 a (by simp [h2]) a h3 rfl
            · have := hlt a (hvb a h2); have := hnew a h3; omega
          · rcases List.mem_append.1 hb' with h3 | h3
            · have := hfl a h3; omega
            · have := hxlt a h3; omega
    · refine ((Fr.of_below (fs := foot D mb v L) hb).trans hF (fun k hk => .inl (hvb k (by simpa using hk)))).trans hS (fun k hk => .inl ?_)
      simp at hk
      subst hk
      exact hDm
end Go.Proofs.YtchbheoapldkaaaGreat
namespace Go.Proofs.YtchbheoapldkaaaGreat
open Go.RowKit Go.Maps

theorem src_sees {w : World} {v : Value} {l : List Nat} (h : Sees w v l) : Src Tryz.prog 1 37 v l.length (l.map B8) w := by
  obtain ⟨⟨a, cap, rfl, hc⟩, _⟩ := h
  cases a with
  | none =>
    have h0 : l.length = 0 := by
      by_cases h1 : 1 ≤ l.length
      · obtain ⟨_, _, h2, _⟩ := hc h1; cases h2
      · omega
    obtain rfl := List.eq_nil_of_length_eq_zero h0
    exact Src.ofNil w Tryz.underlying37 cap
  | some ad =>
    refine Src.ofSlice w Tryz.underlying37 ad l.length cap (l.map B8) (by simp) (fun j u hu => ?_) (one_B8 l)
    have hlt : j < l.length := by simpa using (List.getElem?_eq_some_iff.1 hu).1
    obtain ⟨b, o, hb, hj⟩ := hc (by omega)
    obtain rfl := by simpa using hb
    have hcj := hj j hlt
    rw [Addr.add_lit, hcj]
    simp [List.getElem?_eq_getElem hlt, B8] at hu
    simp [List.getD_eq_getElem?_getD, hlt, ← hu]

theorem append_bytes (w : World) (v : Value) (l : List Nat) (hown : w.ownsRow 0 5 1 v l.length (l.map B8)) (xv : Value) (m : List Nat) (hs : Sees w xv m) (hb : l.length + m.length ≤ 1000000000) :
    ∃ v' w', (Builtin.append_ #[37, 37] 37 #[v, xv]).run Tryz.prog w = .ok v' w' ∧ w'.ownsRow 0 5 1 v' (l ++ m).length ((l ++ m).map B8) ∧ w.grownBy w' v.ownBlock ∧ (v'.ownBlock = v.ownBlock ∨ v'.ownBlock = some w.heap.size) := by
  obtain ⟨i0, hi, hz0, hz1, hz2⟩ := info_parts Tryz.info5
  have := run_append_src w 0 37 37 37 5 i0 _ 1 1 Tryz.underlying37 hi hz0 hz1 hz2 rfl v l.length _ hown xv m.length _ (src_sees hs) (by unfold maxLen; omega) (by omega) (Nat.zero_le _)
  rw [List.length_append, List.map_append]
  exact this

theorem nil_is (n c : Nat) (w : World) : (binOp .eql 37 (.slice none n c) (.slice none 0 0)).run Tryz.prog w = .ok (.bool true) w := by kernel_rfl
theorem nil_not (a : Addr) (n c : Nat) (w : World) : (binOp .eql 37 (.slice (some a) n c) (.slice none 0 0)).run Tryz.prog w = .ok (.bool false) w := by kernel_rfl

set_option maxRecDepth 100000 in
set_option maxHeartbeats 400000 in
theorem clone_any (v : Value) (l : List Nat) (w : World) (hv : Sees w v l) (hs : l.length ≤ 4194304) :
    Calls Tryz.prog 34 #[v] w fun e w' => ∃ v', e = .returned v' ∧ Rw w' v' l ∧ Below w.heap.size w w' ∧ ∀ k, v'.ownBlock = some k → w.heap.size ≤ k := by
  have HV := Hid.mk' hv
  obtain ⟨⟨a, ca, rfl, ha⟩, hma⟩ := hv
  clear ha
  have hn1 := nil_is
  have hn2 := nil_not
  cases a with
  | none =>
    have HL : Hid (l = []) := by
      show _ = _
      obtain ⟨⟨a', ca', he, ha⟩, _⟩ := HV.out
      by_cases h1 : 1 ≤ l.length
      · obtain ⟨b, o, h2, _⟩ := ha h1
        rw [h2] at he
        cases he
      · exact List.eq_nil_of_length_eq_zero (by omega)
    go_enter Tryz.func34, Tryz.ntmps34
    go_wp2
    go_ret
    rw [HL.out]
    exact ⟨_, rfl, Rw.nil _, Below.refl _ _, fun k hk => by cases hk⟩
  | some ad =>
    have hb0 : Below w.heap.size w (w.alloc (.cells #[] 5)) := (Below.refl _ _).alloc (Nat.le_refl _) _
    have hown : (w.alloc (.cells #[] 5)).ownsRow 0 5 1 (.slice (some ⟨w.heap.size, 0, none⟩) 0 0) ([] : List Nat).length (([] : List Nat).map B8) := owns_new w #[] 0 0 (Nat.zero_le _) rfl (by unfold maxLen; omega)
    obtain ⟨v', w', hr, ho, hg, hbk⟩ := append_bytes _ _ [] hown _ l (HV.out.below hb0) (by simp; omega)
    have HA : Hid (∃ v' w', (Builtin.append_ #[37, 37] 37 #[.slice (some ⟨w.heap.size, 0, none⟩) 0 0, .slice (some ad) l.length ca]).run Tryz.prog (w.alloc (.cells #[] 5)) = .ok v' w' ∧ (Rw w' v' l ∧ Below w.heap.size w w' ∧ ∀ k, v'.ownBlock = some k → w.heap.size ≤ k)) := by
      refine ⟨v', w', hr, ⟨ho, hs⟩, hb0.grown hg (by simp) (fun k hk => ?_), fun k hk => ?_⟩
      · have : w.heap.size = k := by simpa [Value.ownBlock] using hk
        omega
      · rcases hbk with h | h
        · rw [h] at hk
          have : w.heap.size = k := by simpa [Value.ownBlock] using hk
          omega
        · rw [h] at hk
          have : w.heap.size + 1 = k := by simpa using hk
          omega
    clear hr ho hg hbk hown hb0
    go_enter Tryz.func34, Tryz.ntmps34
    go_wp2_with (at_builtin; refine wpList_append_run rfl _ _ 37 37 rfl _ _ rfl rfl HA.out ?_; rintro v5 w5 ⟨ho5, hg5, hl5⟩)
    go_ret
    exact ⟨_, rfl, ho5, hg5, hl5⟩

/-- A file as it is handed in: its name, its slice, its bytes. -/
abbrev GR := ByteArray × Value × List Nat
def g0 : GR := (⟨#[]⟩, .slice none 0 0, [])
/-- The slice v shows files. -/
def Gs (w : World) (v : Value) (L : List GR) : Prop :=
  (∃ a cap, v = .slice a L.length cap ∧ (1 ≤ L.length → ∃ b o, a = some ⟨b, o, none⟩ ∧ ∀ j, j < L.length → w.cell? ⟨b, o + j * 2, none⟩ = some (.string (L.getD j g0).1) ∧ w.cell? ⟨b, o + j * 2 + 1, none⟩ = some (L.getD j g0).2.1 ∧ Sees w (L.getD j g0).2.1 (L.getD j g0).2.2)) ∧ L.length ≤ 9223372036854775807
theorem Gs.on {w w' : World} {v : Value} {L : List GR} (h : Gs w v L) (hb : Below w.heap.size w w') : Gs w' v L := by
  obtain ⟨⟨a, cap, rfl, hc⟩, hm⟩ := h
  refine ⟨⟨a, cap, rfl, fun h1 => ?_⟩, hm⟩
  obtain ⟨b, o, rfl, hj⟩ := hc h1
  exact ⟨b, o, rfl, fun j hlt => ⟨cell_on hb (hj j hlt).1, cell_on hb (hj j hlt).2.1, (hj j hlt).2.2.below hb⟩⟩

/-- The slice v shows troubles. -/
def Ts (w : World) (v : Value) (T : List (Int × Int)) : Prop :=
  (∃ a cap, v = .slice a T.length cap ∧ (1 ≤ T.length → ∃ b o, a = some ⟨b, o, none⟩ ∧ ∀ j, j < T.length → w.cell? ⟨b, o + j * 2, none⟩ = some (.int .i64 (T.getD j (0, 0)).1) ∧ w.cell? ⟨b, o + j * 2 + 1, none⟩ = some (.int .i64 (T.getD j (0, 0)).2) ∧ (Lit.int .i64 (T.getD j (0, 0)).1).wf = true ∧ (Lit.int .i64 (T.getD j (0, 0)).2).wf = true)) ∧ T.length ≤ 9223372036854775807
theorem Ts.on {w w' : World} {v : Value} {T : List (Int × Int)} (h : Ts w v T) (hb : Below w.heap.size w w') : Ts w' v T := by
  obtain ⟨⟨a, cap, rfl, hc⟩, hm⟩ := h
  refine ⟨⟨a, cap, rfl, fun h1 => ?_⟩, hm⟩
  obtain ⟨b, o, rfl, hj⟩ := hc h1
  exact ⟨b, o, rfl, fun j hlt => ⟨cell_on hb (hj j hlt).1, cell_on hb (hj j hlt).2.1, (hj j hlt).2.2⟩⟩

def tOk (t : Int × Int) : Bool := decide (1 ≤ t.1 ∧ 1 ≤ t.2 ∧ t.2 ≤ 3)
set_option maxRecDepth 100000 in
set_option maxHeartbeats 400000 in
theorem troubles_any (v : Value) (T : List (Int × Int)) (w : World) (hv : Ts w v T) :
    Calls Tryz.prog 33 #[v] w fun e w' => e = .returned (.bool (T.all tOk)) ∧ Below w.heap.size w w' := by
  obtain ⟨⟨a, ca, rfl, ha⟩, hma⟩ := hv
  go_enter Tryz.func33, Tryz.ntmps33
  go_wp2
  go_loopw [7] (fun i wr => ∃ k : Nat, k ≤ T.length ∧ i = .int .i64 k ∧ Below w.heap.size w wr ∧ ∀ j, j < k → tOk (T.getD j (0, 0)) = true) (fun i _ => T.length - (intOf i).toNat)
  case atStart => exact ⟨0, by omega, rfl, Below.refl _ _, fun j hj => by omega⟩
  case round =>
    obtain ⟨k, hk, rfl, hb, hall⟩ := hrel
    have HA := Hid.mk' hall
    clear hall
    have hsz := hb.size
    by_cases hlt : k < T.length
    · obtain ⟨b, o, rfl, hc⟩ := ha (by omega)
      obtain ⟨c1, c2, _⟩ := hc k hlt
      replace c1 := cell_on hb c1
      replace c2 := cell_on hb c2
      clear hc
      have HO : Hid (∀ b, tOk (T.getD k (0, 0)) = b → T.all tOk = b ∨ b = true) := by
        show ∀ b, _
        intro b hb
        cases b
        · left
          rw [List.all_eq_false]
          exact ⟨T[k], List.getElem_mem hlt, by simpa [List.getD_eq_getElem?_getD, hlt] using hb⟩
        · right; rfl
      obtain ⟨x, hx⟩ : ∃ x, (T.getD k (0, 0)).1 = x := ⟨_, rfl⟩
      obtain ⟨y, hy⟩ : ∃ y, (T.getD k (0, 0)).2 = y := ⟨_, rfl⟩
      have HT : Hid (tOk (T.getD k (0, 0)) = decide (1 ≤ x ∧ 1 ≤ y ∧ y ≤ 3)) := by show _ = _; unfold tOk; rw [hx, hy]
      rw [hx] at c1
      rw [hy] at c2
      clear hx hy
      by_cases hok : 1 ≤ x ∧ 1 ≤ y ∧ y ≤ 3
      · have t1 : decide (x < 1) = false := by rw [decide_eq_false_iff_not]; omega
        have t2 : decide (y < 1) = false := by rw [decide_eq_false_iff_not]; omega
        have t3 : decide (3 < y) = false := by rw [decide_eq_false_iff_not]; omega
        have HK : Hid (tOk (T.getD k (0, 0)) = true) := by show _ = _; rw [HT.out, decide_eq_true_iff]; exact hok
        clear hok
        go_wp2
        go_roundw
        case rel =>
          refine ⟨k + 1, by omega, by go_num, hb.alloc hsz _, fun j hj => ?_⟩
          by_cases hjk : j = k
          · rw [hjk]; exact HK.out
          · exact HA.out j (by omega)
        case measure => simp [intOf]; omega
      · have HK : Hid (T.all tOk = false) := by
          show _ = _
          rcases HO.out false (by rw [HT.out, decide_eq_false_iff_not]; exact hok) with h | h
          · exact h
          · cases h
        go_wp2
        all_goals first
          | (go_ret; exact ⟨ret_bool HK.out.symm, hb.alloc hsz _⟩)
          | omega
    · have HK : Hid (T.all tOk = true) := by
        show _ = _
        rw [List.all_eq_true]
        intro x hx
        obtain ⟨j, hj, rfl⟩ := List.getElem_of_mem hx
        simpa [List.getD_eq_getElem?_getD, hj] using HA.out j (by omega)
      go_wp2
      go_ret
      exact ⟨ret_bool HK.out.symm, hb⟩
end Go.Proofs.YtchbheoapldkaaaGreat
