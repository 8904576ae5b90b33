/-
  A file put behind a disk's files.
-/
import Derived.Test.YthkjjebghfcgkaaSk
namespace Go.Proofs.Ythkjjebghfcgkaa
open Go.RowKit Go.Maps

theorem Try.info72 : (Try.prog.info? 72).map (fun i => (i.zero, i.size, i.bytes)) = some (some (.agg #[.string ⟨#[]⟩, .slice none 0 0, .slice none 0 0]), 3, 64) := by kernel_rfl

/-- What a call leaves that moves the files. -/
def Moved (w : World) (D mb : Nat) (v : Value) (L : List FR) (f : Int → Int) (s : Int) (off : Bool) (v' : Value) (L' : List FR) (w' : World) : Prop :=
  Dk w' D mb v' L' f s off ∧ Fr (foot D mb v L) w w' ∧ ∀ k ∈ foot D mb v' L', k ∈ foot D mb v L ∨ w.heap.size ≤ k

theorem oneCell_rw {w : World} {v : Value} {l : List Nat} (h : Rw w v l) : v.oneCell' = true := by
  obtain ⟨a, c, rfl, _⟩ := h.slice
  rfl

theorem src_file (w : World) (q : Nat) (x : FR) (fr : Nat × Nat) (hq : w.heap[q]? = some (.cells #[.string x.nm, x.sv, x.nv] 72 fr)) (h1 : x.sv.oneCell' = true) (h2 : x.nv.oneCell' = true) :
    Src Try.prog 3 68 (.slice (some ⟨q, 0, none⟩) 1 1) 1 (FC x) w := by
  refine Src.ofSlice _ Try.underlying68 ⟨q, 0, none⟩ 1 1 _ rfl (fun j u hj => ?_) (fun u hu => ?_)
  · rw [Addr.add_lit, Nat.zero_add, cell_of_row w q j _ 72 fr hq]
    match j, hj with
    | 0, hj => exact hj
    | 1, hj => exact hj
    | 2, hj => exact hj
  · simp [FC] at hu
    rcases hu with rfl | rfl | rfl
    · rfl
    · exact h1
    · exact h2

theorem Dk.push {w w1 : World} {D mb : Nat} {v : Value} {L : List FR} {f : Int → Int} {s : Int} {off : Bool} (h : Dk w D mb v L f s off) (x : FR) (hb : Below w.heap.size w w1) (hsv : Rw w1 x.sv x.safe) (hnv : Rw w1 x.nv x.seen)
    (hnew : ∀ k ∈ feet1 x, w.heap.size ≤ k) (hnd : (feet1 x).Nodup) (hl : L.length < 16) {q : Nat} {fr : Nat × Nat} (hq : w1.heap[q]? = some (.cells #[.string x.nm, x.sv, x.nv] 72 fr)) :
    ∃ v' w2, (Builtin.append_ #[68, 68] 68 #[v, .slice (some ⟨q, 0, none⟩) 1 1]).run Try.prog w1 = .ok v' w2 ∧ (∃ a c, v' = .slice a (L.length + 1) c) ∧
      w2.cell? ⟨D, 0, none⟩ = some v ∧ w2.frozen? ⟨D, 0, none⟩ = false ∧ Moved w D mb v L f s off v' (L ++ [x]) (w2.setCell ⟨D, 0, none⟩ v') ∧ (∀ n f', Mp w mb n f' → Mp (w2.setCell ⟨D, 0, none⟩ v') mb n f') ∧ (∀ a u, w.cell? a = some u → v.ownBlock ≠ some a.block → w2.cell? a = some u) := by
  have h1 := h.on hb
  have hlt := h.lt
  have hlt1 := h1.lt
  obtain ⟨hDm, hDmb, hDv, hDf⟩ := h.mem
  obtain ⟨i0, hi, hz0, hz1, hz2⟩ := info_parts Try.info72
  obtain ⟨v', w2, hr, ho, hg, hbk⟩ := run_append_src (P := Try.prog) w1 0 68 68 68 72 i0 _ 3 64 Try.underlying68 hi hz0 hz1 hz2 rfl v L.length _ h1.2.1.1 _ 1 (FC x)
    (src_file w1 q x fr hq (oneCell_rw hsv) (oneCell_rw hnv)) (by unfold maxLen; omega) (by omega) (Nat.zero_le _)
  have hF : Fr v.ownBlock.toList w1 w2 := Fr.of_grown hg
  have hsl : ∃ a c, v' = .slice a (L.length + 1) c := by
    rcases ho.2 with ⟨rfl, h0⟩ | ⟨g, cap, cur, rfl, _⟩
    · omega
    · exact ⟨_, _, rfl⟩
  have hDh : w2.heap[D]? = w1.heap[D]? := hF.2.2 D (hlt1 D h1.mem.1) (fun hm => hDv (by simpa using hm))
  have hc2 : w2.heap[D]? = some (.cells #[v, .map (some mb), .int .i64 s, .bool off] 70 (0, 0)) := hDh.trans h1.1
  have hmpk : ∀ n f', Mp w mb n f' → Mp (w2.setCell ⟨D, 0, none⟩ v') mb n f' := by
    intro n f' hm
    have h6 := List.nodup_cons.1 (List.nodup_cons.1 h.2.2.2.2).2
    exact (Fr.of_set w2 ⟨D, 0, none⟩ v').mp (hF.mp ((Fr.of_below (fs := []) hb).mp hm (by simp)) (fun hm => h6.1 (by simp at hm; simp [hm]))) (fun hm => by simp at hm; exact hDmb hm.symm)
  refine ⟨v', w2, hr, hsl, ?_, ?_, ?_, hmpk, fun a u hc hne => hF.cell (cell_on hb hc) (fun hm => hne (by simpa using hm))⟩
  · rw [cell_of_row w2 D 0 _ 70 (0, 0) hc2]; rfl
  · simp [World.frozen?, hc2]
  · have hS := Fr.of_set w2 ⟨D, 0, none⟩ v'
    have hvb : ∀ k, v.ownBlock = some k → k ∈ foot D mb v L := fun k hk => by simp [foot, hk]
    have hv'b : ∀ k, v'.ownBlock = some k → (v.ownBlock = some k) ∨ k = w1.heap.size := fun k hk => by
      rcases hbk with e | e
      · left; rw [← e]; exact hk
      · right; rw [e] at hk; simpa using hk.symm
    have hfe : feet (L ++ [x]) = feet L ++ feet1 x := by rw [feet_append]; simp [feet]
    have hxlt : ∀ k ∈ feet1 x, k < w1.heap.size := fun k hk => by
      rcases List.mem_append.1 hk with hk | hk
      · exact (hsv.1.lt k (by simpa using hk)).2
      · exact (hnv.1.lt k (by simpa using hk)).2
    have hDne : ∀ k, v'.ownBlock = some k → k ≠ D := fun k hk e => by
      rcases hv'b k hk with h2 | h2
      · exact hDv (by rw [h2, e])
      · have := hlt1 D h1.mem.1; omega
    have h5 := h.2.2.2.2
    have hsub : ∀ k ∈ foot D mb v' (L ++ [x]), k ∈ foot D mb v L ∨ w.heap.size ≤ k := by
      intro k hk
      simp only [foot, List.mem_cons, List.mem_append, hfe] at hk ⊢
      rcases hk with hk | hk | hk | hk | hk
      · simp [hk]
      · simp [hk]
      · rcases hv'b k (by simpa using hk) with h2 | h2
        · left; simp [h2]
        · right; have := hb.size; omega
      · simp [hk]
      · right; exact hnew k hk
    refine ⟨⟨?_, ⟨?_, by simp; omega⟩, fun y hy => ?_, ?_, ?_⟩, ?_, hsub⟩
    · rw [heap_setCell_same w2 D 0 _ _ _ hc2]; rfl
    · rw [FCs_append, List.length_append]
      have e : FCs [x] = FC x := by simp [FCs]
      rw [e]
      exact hS.owns ho (fun k hk hm => by simp at hm; exact hDne k hk hm)
    · have hyf : ∀ k, k ∈ feet1 y → k ≠ D ∧ v.ownBlock ≠ some k := by
        intro k hk
        rcases List.mem_append.1 hy with hy | hy
        · have hkf : k ∈ feet L := List.mem_flatMap.2 ⟨y, hy, hk⟩
          refine ⟨fun e => hDf (e ▸ hkf), fun e => ?_⟩
          have h6 := (List.nodup_cons.1 (List.nodup_cons.1 h5).2).2
          exact (List.nodup_append.1 h6).2.2 k (by simp [e]) k hkf rfl
        · have e : y = x := by simpa using hy
          subst e
          have h7 := hnew k hk
          exact ⟨fun e => by have := hlt D hDm; omega, fun e => by have := hlt k (hvb k e); omega⟩
      have hold : Rw w1 y.sv y.safe ∧ Rw w1 y.nv y.seen := by
        rcases List.mem_append.1 hy with hy | hy
        · exact h1.2.2.1 y hy
        · have e : y = x := by simpa using hy
          subst e
          exact ⟨hsv, hnv⟩
      have step : ∀ u l, Rw w1 u l → (∀ k, u.ownBlock = some k → k ∈ feet1 y) → Rw (w2.setCell ⟨D, 0, none⟩ v') u l := fun u l hu hin =>
        hS.rw (hF.rw hu (fun k hk hm => (hyf k (hin k hk)).2 (by simpa using hm))) (fun k hk hm => (hyf k (hin k hk)).1 (by simpa using hm))
      exact ⟨step _ _ hold.1 (fun k hk => by simp [feet1, hk]), step _ _ hold.2 (fun k hk => by simp [feet1, hk])⟩
    · obtain ⟨n, hle, hm⟩ := h1.2.2.2.1
      have h6 := List.nodup_cons.1 (List.nodup_cons.1 h5).2
      refine ⟨n, hle, hS.mp (hF.mp hm (fun hm => h6.1 (by simp at hm; simp [hm]))) (fun hm => by simp at hm; exact hDmb hm.symm)⟩
    · have h6 := List.nodup_cons.1 h5
      have h7 := List.nodup_cons.1 h6.2
      have h8 := List.nodup_append.1 h7.2
      have hfl : ∀ k ∈ feet L, k < w.heap.size := fun k hk => hlt k (by simp [foot, hk])
      have hmbl := hlt mb (by simp [foot])
      have hDl := hlt D hDm
      have hbs := hb.size
      simp only [foot, hfe, List.nodup_cons, List.mem_cons, List.mem_append, not_or]
      refine ⟨⟨hDmb, ?_, hDf, fun e => by have := hnew D e; omega⟩, ⟨?_, ?_, fun e => by have := hnew mb e; omega⟩, ?_⟩
      · intro hm; exact hDne D (by simpa using hm) rfl
      · intro hm
        rcases hv'b mb (by simpa using hm) with h2 | h2
        · exact h7.1 (by simp [h2])
        · omega
      · intro hm; exact h7.1 (by simp [hm])
      · rw [List.nodup_append]
        refine ⟨?_, ?_, ?_⟩
        · cases v'.ownBlock <;> simp
        · rw [List.nodup_append]
          exact ⟨h8.2.1, hnd, fun a ha b hb' e => by have := hfl a ha; have := hnew b hb'; omega⟩
        · intro a ha b hb' e
          subst e
          rcases hv'b a (by simpa using ha) with h2 | h2
          · rcases List.mem_append.1 hb' with h3 | h3
            · exact h8.2.2 a (by simp [h2]) a h3 rfl
            · have := hlt a (hvb a h2); have := hnew a h3; omega
          · rcases List.mem_append.1 hb' with h3 | h3
            · have := hfl a h3; omega
            · have := hxlt a h3; omega
    · refine ((Fr.of_below (fs := foot D mb v L) hb).trans hF (fun k hk => .inl (hvb k (by simpa using hk)))).trans hS (fun k hk => .inl ?_)
      simp at hk
      subst hk
      exact hDm
end Go.Proofs.Ythkjjebghfcgkaa
