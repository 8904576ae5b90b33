/-
  Committed files turned: pages laid into base, files made safe, files taken away; the store's calls without troubles.
-/
import Derived.Test.YtjimhikfmccicaaGreatMg25
namespace Go.Proofs.YtjimhikfmccicaaGreat
open Go.RowKit Go.Maps Go.Sort Go.Shelf

namespace H
theorem sees_lt {w : World} {x : Addr} {n c : Nat} {l : List Nat} (h : Sees w (.slice (some x) n c) l) (h1 : 1 ≤ l.length) : x.block < w.heap.size := by
  obtain ⟨⟨a, cap, e, hc⟩, _⟩ := h
  obtain ⟨b, o, rfl, hj⟩ := hc h1
  obtain ⟨e1, _⟩ := by simpa using e
  rw [e1]
  exact World.block_lt_of_cell? _ _ (hj 0 (by omega))
theorem _root_.Go.Proofs.YtjimhikfmccicaaGreat.CmA.at {A : List AF} {bs : List Nat} {B : List Bt} (h : CmA A bs B) {u : ByteArray} {v : List Nat × List Nat} (hv : lkA A u = some v) : (u = baseN ∨ u = logN) ∧ v.1 = v.2 :=
  ⟨h.2.1 _ (lkA_some hv), h.2.2.2.1 _ (lkA_some hv)⟩
theorem cm_of {A : List AF} {bs : List Nat} {B : List Bt} (hr : M.rise (nmA A)) (h : ∀ u v, lkA A u = some v → (u = baseN ∨ u = logN) ∧ v.1 = v.2) (hb : seenA A baseN = bs) (hl : seenA A logN = logB 0 B) (hB : ∀ b ∈ B, okB b) : CmA A bs B := by
  refine ⟨hr, fun x hx => (h x.1 x.2 (lkA_mem hr hx)).1, ?_, fun x hx => (h x.1 x.2 (lkA_mem hr hx)).2, hb, hl, hB⟩
  cases hj : lkA A jourN with
  | none => rfl
  | some v =>
    rcases (h _ _ hj).1 with h1 | h1
    · exact absurd h1.symm base_jour
    · exact absurd h1.symm log_jour
theorem cm_jour {A : List AF} {bs : List Nat} {B : List Bt} (h : CmA A bs B) : M.has (nmA A) jourN = false := by
  rw [has_lk h.1, h.2.2.1]
  rfl
theorem cm_nolog {A : List AF} {bs : List Nat} {B : List Bt} (h : CmA A bs B) (hl : M.has (nmA A) logN = false) : B = [] := by
  cases B with
  | nil => rfl
  | cons b B =>
    have h1 := h.2.2.2.2.2.1
    unfold seenA at h1
    rw [hl] at h1
    have h2 := encB_length 3 b.1 0 (h.2.2.2.2.2.2 b (List.mem_cons_self ..)).1
    have h3 := congrArg List.length h1
    rw [logB, List.length_append, h2] at h3
    simp at h3
    omega
theorem lay_lk : ∀ (X : List (Nat × List Nat)) {A : List AF}, M.rise (nmA A) → (M.has (nmA A) baseN = true ∨ A.length < 16) → (∀ u, u ≠ baseN → lkA (layA A X) u = lkA A u) ∧ seenA (layA A X) baseN = layB (seenA A baseN) X ∧ M.rise (nmA (layA A X))
  | [], A, hr, _ => ⟨fun _ _ => rfl, rfl, hr⟩
  | x :: X, A, hr, h16 => by
    have hr1 := (rise_mWrite hr baseN (x.1 * 512) x.2).1
    have hh := mw_has hr h16 (x.1 * 512) x.2
    obtain ⟨h1, h2, h3⟩ := lay_lk X hr1 (.inl hh)
    refine ⟨fun u hu => ?_, ?_, h3⟩
    · show lkA (layA (mWrite A baseN (x.1 * 512) x.2).2.1 X) u = _
      rw [h1 u hu, lk_write hr h16, if_neg hu]
    · show seenA (layA (mWrite A baseN (x.1 * 512) x.2).2.1 X) baseN = _
      rw [h2, seen_lk hr1, lk_write hr h16, if_pos rfl, ← seen_lk hr]
      rfl
/-- What fold makes of committed files. -/
theorem fold_A {A : List AF} {bs : List Nat} {B : List Bt} (h : CmA A bs B) (X : List (Nat × List Nat)) : CmA (mDel (mSync (layA A X) baseN).2.1 logN).2.1 (layB bs X) [] ∧ lkA (mDel (mSync (layA A X) baseN).2.1 logN).2.1 logN = none := by
  have hl := h.len
  obtain ⟨k1, k2, k3⟩ := lay_lk X h.1 (.inr (by omega))
  rw [h.2.2.2.2.1] at k2
  have r1 := (rise_mSync k3 baseN).1
  have r2 := (rise_mDel r1 logN).1
  have kk : ∀ u, lkA (mDel (mSync (layA A X) baseN).2.1 logN).2.1 u = if u = logN then none else if u = baseN then (lkA (layA A X) baseN).map (fun v => (v.2, v.2)) else lkA A u := fun u => by
    rw [lk_del r1]
    split
    · rfl
    · rw [lk_sync k3]
      split
      · rfl
      · rename_i hu; exact k1 u hu
  refine ⟨cm_of r2 (fun u v hv => ?_) ?_ ?_ (fun b hb => by cases hb), by rw [kk, if_pos rfl]⟩
  · rw [kk] at hv
    split at hv
    · cases hv
    · split at hv
      · rename_i hu
        obtain ⟨v0, _, rfl⟩ := Option.map_eq_some_iff.1 hv
        exact ⟨.inl hu, rfl⟩
      · exact h.at hv
  · rw [seen_lk r2, kk, if_neg base_log, if_pos rfl, ← k2, seen_lk k3]
    cases lkA (layA A X) baseN <;> rfl
  · rw [seen_lk r2, kk, if_pos rfl]
    rfl
theorem z_call {w : World} {P D n m : Nat} {A A' : List AF} {F : List Nat} {fn : Nat} {args : Array Value} (h : Dz w D n A F) (hS : Ss w P D) (hP : P ∉ F) (hc : ∀ R s, s ≤ n → Sg (first []) w P D R ⟨A, s, false, 0⟩ F → ∃ s', s' ≤ m ∧ Calls Tryz.prog fn args w (fun e w' => e = .returned (.tuple #[]) ∧ SgM (first []) w w' P D R ⟨A', s', false, 0⟩ F)) :
    Calls Tryz.prog fn args w (fun e w' => e = .returned (.tuple #[]) ∧ DzM w w' D m A' F) := by
  obtain ⟨R, s, hs, hg⟩ := h.sg hS hP
  obtain ⟨s', hs', hc⟩ := hc R s hs hg
  exact hc.mono (fun e w' q => ⟨q.1, DzM.of_sg hg.1 q.2 hs'⟩)
theorem zsync {w : World} {P D n : Nat} {A : List AF} {F : List Nat} (h : Dz w D n A F) (hS : Ss w P D) (hP : P ∉ F) (hn : n ≤ 1000000) (t : ByteArray) (ht : M.nam t = true) :
    Calls Tryz.prog 63 #[.pointer (some ⟨P, 0, none⟩), .string t] w fun e w' => e = .returned (.tuple #[]) ∧ DzM w w' D (n + 1) (mSync A t).2.1 F := by
  refine z_call h hS hP (fun R s hs hg => ?_)
  have h1 := ssync_g hg kin_no (show s ≤ _ by omega) t ht
  by_cases hh : M.has (nmA A) t = true
  · rw [Sd.sy0 _ _ _ _ hh, Sd.st_ok _ rfl (by unfold mSync; rw [if_pos hh])] at h1
    exact ⟨s + 1, by omega, h1⟩
  · have e1 : (⟨A, s, false, 0⟩ : Sd).sy (first []) t = ⟨A, s, false, 0⟩ := by
      unfold Sd.sy Sd.has Sd.dk
      simp [show M.has (nmA A) t = false by simpa using hh]
    have e2 : (mSync A t).2.1 = A := by unfold mSync; rw [if_neg hh]
    rw [e1] at h1
    rw [e2]
    exact ⟨s, by omega, h1⟩
theorem zremove {w : World} {P D n : Nat} {A : List AF} {F : List Nat} (h : Dz w D n A F) (hS : Ss w P D) (hP : P ∉ F) (hn : n ≤ 1000000) (t : ByteArray) (ht : M.nam t = true) (hh : M.has (nmA A) t = true) :
    Calls Tryz.prog 64 #[.pointer (some ⟨P, 0, none⟩), .string t] w fun e w' => e = .returned (.tuple #[]) ∧ DzM w w' D (n + 1) (mDel A t).2.1 F :=
  sremove_any h hS hP hn t ht hh rfl (rise_mDel h.rise t).1
theorem zcut {w : World} {P D n : Nat} {A : List AF} {F : List Nat} (h : Dz w D n A F) (hS : Ss w P D) (hP : P ∉ F) (hn : n ≤ 1000000) (t : ByteArray) (ht : M.nam t = true) (k : Nat) (hk : k ≤ 4194304) (hl : (seenA A t).length ≤ k) :
    Calls Tryz.prog 62 #[.pointer (some ⟨P, 0, none⟩), .string t, .int .i64 k] w fun e w' => e = .returned (.tuple #[]) ∧ DzM w w' D n A F := by
  refine z_call h hS hP (fun R s hs hg => ?_)
  have h1 := scut_g hg kin_no (show s ≤ _ by omega) t ht k hk
  have e1 : (⟨A, s, false, 0⟩ : Sd).ct (first []) t k = ⟨A, s, false, 0⟩ := by
    unfold Sd.ct Sd.sz Sd.dk
    simp only [Bool.false_eq_true, if_false]
    rw [if_neg (by omega)]
  rw [e1] at h1
  exact ⟨s, hs, h1⟩
theorem z_on {w w1 : World} {P D n m : Nat} {A A' : List AF} {F : List Nat} (h : DzM w w1 D n A F) (hS : Ss w P D) (hP : P ∉ F) {fn : Nat} {args : Array Value} {r : Ending} (hc : ∀ F1, Dz w1 D n A F1 → Ss w1 P D → P ∉ F1 → Calls Tryz.prog fn args w1 (fun e w' => e = r ∧ DzM w1 w' D m A' F1)) : Calls Tryz.prog fn args w1 (fun e w' => e = r ∧ DzM w w' D m A' F) := by
  obtain ⟨F1, hz, hF, hn⟩ := h
  have := hS.lt
  exact (hc F1 hz (hS.fr hF hP) (fun hk => (hn _ hk).elim hP (fun h => by omega))).mono (fun e w' q => ⟨q.1, dzm_step hF hn q.2⟩)
theorem dz_dl {w : World} {D n : Nat} {A : List AF} {F : List Nat} (h : Dz w D n A F) : Dl w D A F := by
  obtain ⟨mb, dv, L, s, hD, hs, hr, hA, hf⟩ := h
  refine ⟨first [], s.toNat, mb, dv, L, ?_, hr, hA, hf⟩
  rw [show ((s.toNat : Nat) : Int) = s by omega]
  exact hD
theorem okP_lk : ∀ (B : List Bt) (cnt e : Nat) (Pl : List (Nat × Nat)), okP Pl → (∀ b ∈ B, okB b) → (logB e B).length + e ≤ 4194304 → okP (lkB cnt e Pl B).2.2
  | [], _, _, _, h, _, _ => h
  | b :: B, cnt, e, Pl, h, hB, hl => by
    have hb := hB b (List.mem_cons_self ..)
    have h1 := encB_length 3 b.1 e hb.1
    rw [logB, List.length_append, h1] at hl
    refine okP_lk B b.1 (e + szB b) _ (okP_places hb.2.1 e 0 Pl h (by omega)) (fun x hx => hB x (List.mem_cons_of_mem _ hx)) ?_
    unfold szB
    unfold szB at hl
    omega
theorem cnt_is {A : List AF} {q : List (List Nat)} {B : List Bt} (h : CmA A q.flatten B) (hq : okQ q) (hq4 : q.length ≤ 4096) : cntA A = q.length := by
  unfold cntA
  rw [h.2.2.2.2.1, flat_len hq]
  omega
end H

theorem keysB_any (mb : Option Nat) (w : World) : Calls Tryz.prog 78 #[.map mb] w fun e w' => e = .returned (.func (.func 108) #[] #[.pointer (some ⟨w.heap.size, 0, none⟩)]) ∧ w' = w.alloc (.cells #[.map mb] 77) :=
  (callsIn_wide (n := 5)).1 (AnyZI.keys_in keysB Fence.wide 5 trivial rfl mb w)
set_option maxHeartbeats 1000000 in
theorem sortedB_any {H : Type} (b nn : Nat) (D0 : DataW H) (R : Value → Option (DataW H × List MemPlace)) (w : World) (hown : w.ownsMap Tryz.prog 3 R b nn D0) (hmax : Maps.size D0 ≤ 100000) :
    Calls Tryz.prog 77 #[.func (.func 108) #[] #[.pointer (some ⟨w.heap.size, 0, none⟩)]] (w.alloc (.cells #[.map (some b)] 77)) fun e w' => ∃ (v : Value) (ss : List Int), e = .returned v ∧ ss.Perm (intKeys D0) ∧
      w'.ownsRow (w.heap.size + 1) 3 1 v ss.length ((ss.mergeSort (fun x y => decide (x ≤ y))).map encZ) ∧ Below (w.heap.size + 1) (w.alloc (.cells #[.map (some b)] 77)) w' := by
  have hbl := hown.lt
  have hseq : SeqGives Fence.wide 2 Tryz.prog 108 #[.pointer (some ⟨w.heap.size, 0, none⟩)] encZ (fun ss => ss.Perm (intKeys D0)) (Maps.size D0) (w.alloc (.cells #[.map (some b)] 77)) :=
    AnyZI.keys_gives (ρ := keysB_ren) { keysB with } Fence.wide _ trivial rfl (by omega) w.heap.size b nn D0 _ (by simp) (by simp) (by
      obtain ⟨es, clock, hb, Ft, hs, hD⟩ := hown
      exact ⟨es, clock, (Below.heap_alloc _ _ b hbl).trans hb, Ft, hs, hD⟩)
  have cS := AnyZI.sorted_in sortedA Fence.wide 5 trivial trivial trivial trivial rfl (by omega) (sortsA _) (enters_of Tryz.func107 (by kernel_rfl) rfl) 108 #[.pointer (some ⟨w.heap.size, 0, none⟩)] trivial (enters_of Tryz.func108 (by kernel_rfl) rfl) _ _ (by unfold maxLen; omega) (by omega) _ hseq
  change CallsIn _ _ Tryz.prog 77 _ _ _ at cS
  refine ((callsIn_wide (n := 5)).1 cS).mono ?_
  rintro e w' ⟨v, ss, rfl, hS, hrow, _, hb⟩
  have h9 : w'.ownsRow (w.alloc (.cells #[.map (some b)] 77)).heap.size 3 1 v ss.length ((ss.mergeSort (fun x y => decide (x ≤ y))).map encZ) := hrow
  exact ⟨v, ss, rfl, hS, by simpa using h9, by simpa using hb⟩
/-- The sorted numbers of a map of places. -/
theorem sortedP_any {w : World} {pb : Nat} {Pl : List (Nat × Nat)} (hM : Mo w pb (plE Pl)) (hr : riseP Pl) (hl : Pl.length ≤ 5000) :
    Calls Tryz.prog 77 #[.func (.func 108) #[] #[.pointer (some ⟨w.heap.size, 0, none⟩)]] (w.alloc (.cells #[.map (some pb)] 77)) fun e w' => ∃ v, e = .returned v ∧ w'.ownsRow (w.heap.size + 1) 3 1 v (Pl.map (·.1)).length (((Pl.map (·.1)).map fun k : Nat => (k : Int)).map encZ) ∧ Below w.heap.size w w' := by
  have hk : (plE Pl).map (fun e => (e.1 : Int)) = (Pl.map (·.1)).map fun k : Nat => (k : Int) := by unfold plE; simp [List.map_map, Function.comp_def]
  refine (sortedB_any pb 5000 (ents (plE Pl)) heldR w hM (by rw [size_ents]; unfold plE; simp; omega)).mono ?_
  rintro e w' ⟨v, ss, rfl, hp, hrow, hb⟩
  rw [intKeys_ents, hk] at hp
  have hs := sort_is hp (by
    rw [List.map_map, List.pairwise_map]
    exact hr.imp (fun h => by show (_ : Int) < _; simp; omega))
  have hln : ss.length = (Pl.map (·.1)).length := by rw [hp.length_eq, List.length_map]
  rw [hs, hln] at hrow
  exact ⟨v, rfl, hrow, ((Below.refl _ _).alloc (Nat.le_refl _) _).trans (hb.mono (by omega))⟩
end Go.Proofs.YtjimhikfmccicaaGreat
