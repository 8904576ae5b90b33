/-
  Strokes at other names leave a file as it is: what is safe and seen of it stays.
-/
import Derived.Test.YthkjjebghfcgkaaLt
import Derived.Test.YthkjjebghfcgkaaNw
namespace Go.Proofs.Ythkjjebghfcgkaa
open Go.ChangeShapes Go.WideShapes Go.ChangeAt Go.RowKit Go.Deep Go.Maps

/-- The names rise and are names, and the file kb has K, safe and seen. -/
structure SfI (kb : ByteArray) (K : List Nat) (L : List FR) : Prop where
  rise : M.rise (names L)
  nam : ∀ x ∈ L, M.nam x.nm = true
  kept : ∃ x ∈ L, x.nm = kb ∧ x.safe = K ∧ x.seen = K

theorem SfI.set {kb : ByteArray} {K : List Nat} {L : List FR} (h : SfI kb K L) {t : ByteArray} (ht : t ≠ kb) {i : Nat} (hi : i < L.length) (hn : (L.getD i z0).nm = t) (y : FR) (hy : y.nm = (L.getD i z0).nm) : SfI kb K (L.set i y) := by
  refine ⟨by rw [names_set L hi y hy]; exact h.rise, fun x hx => ?_, ?_⟩
  · rcases List.mem_or_eq_of_mem_set hx with hx | rfl
    · exact h.nam x hx
    · rw [hy]; exact h.nam _ (getD_mem L hi)
  · obtain ⟨x, hx, e, r⟩ := h.kept
    obtain ⟨j, hj, rfl⟩ := List.mem_iff_getElem.1 hx
    have hij : i ≠ j := by
      rintro rfl
      apply ht
      rw [← hn, ← e]
      simp [List.getD_eq_getElem?_getD, hj]
    refine ⟨L[j], List.mem_iff_getElem.2 ⟨j, by simpa using hj, by rw [List.getElem_set_ne hij]⟩, e, r⟩
theorem SfI.gone {kb : ByteArray} {K : List Nat} {L : List FR} (h : SfI kb K L) {t : ByteArray} (ht : t ≠ kb) {i : Nat} (hi : i < L.length) (hn : (L.getD i z0).nm = t) : SfI kb K (L.take i ++ L.drop (i + 1)) := by
  refine ⟨rise_gone h.rise i, fun x hx => ?_, ?_⟩
  · rcases List.mem_append.1 hx with hx | hx
    · exact h.nam x (List.mem_of_mem_take hx)
    · exact h.nam x (List.mem_of_mem_drop hx)
  · obtain ⟨x, hx, e, r⟩ := h.kept
    refine ⟨x, ?_, e, r⟩
    have hsp : L = L.take i ++ L.getD i z0 :: L.drop (i + 1) := by
      conv => lhs; rw [← List.take_append_drop i L]
      rw [List.drop_eq_getElem_cons hi]
      simp [List.getD_eq_getElem?_getD, hi]
    rw [hsp] at hx
    rcases List.mem_append.1 hx with hx | hx
    · exact List.mem_append_left _ hx
    · rcases List.mem_cons.1 hx with rfl | hx
      · exact absurd (hn.symm.trans e) ht
      · exact List.mem_append_right _ hx
theorem SfI.mid {kb : ByteArray} {K : List Nat} {L : List FR} (h : SfI kb K L) {t : ByteArray} (htn : M.nam t = true) (hh : M.has (names L) t = false) {y : FR} (hy : y.nm = t) : SfI kb K (L.take (M.pos (names L) t) ++ y :: L.drop (M.pos (names L) t)) := by
  refine ⟨by rw [names_mid, hy]; exact M.rise_insert h.rise hh, fun x hx => ?_, ?_⟩
  · rcases List.mem_append.1 hx with hx | hx
    · exact h.nam x (List.mem_of_mem_take hx)
    · rcases List.mem_cons.1 hx with rfl | hx
      · rw [hy]; exact htn
      · exact h.nam x (List.mem_of_mem_drop hx)
  · obtain ⟨x, hx, e, r⟩ := h.kept
    refine ⟨x, ?_, e, r⟩
    rw [← List.take_append_drop (M.pos (names L) t) L] at hx
    rcases List.mem_append.1 hx with hx | hx
    · exact List.mem_append_left _ hx
    · exact List.mem_append_right _ (List.mem_cons_of_mem _ hx)
theorem SfI.push {kb : ByteArray} {K : List Nat} {L : List FR} (h : SfI kb K L) {t : ByteArray} (htn : M.nam t = true) (hh : M.has (names L) t = false) (hend : M.pos (names L) t = L.length) {y : FR} (hy : y.nm = t) : SfI kb K (L ++ [y]) := by
  have := h.mid htn hh hy
  rw [hend, List.take_of_length_le (Nat.le_refl _), List.drop_of_length_le (Nat.le_refl _)] at this
  exact this

/-- How a stroke at another name leaves the disk. -/
def SafD (kb : ByteArray) (K : List Nat) (w : World) (D mb : Nat) (v : Value) (L : List FR) (f : Int → Int) (s : Int) (w' : World) : Prop :=
  ∃ s' v' L', (s ≤ s' ∧ s' ≤ s + 1) ∧ Moved w D mb v L f s' false v' L' w' ∧ SfI kb K L'
theorem SafD.below {kb : ByteArray} {K : List Nat} {w w' : World} {D mb : Nat} {v : Value} {L : List FR} {f : Int → Int} {s : Int} (h : Dk w D mb v L f s false) (hI : SfI kb K L) (hb : Below w.heap.size w w') : SafD kb K w D mb v L f s w' :=
  ⟨s, v, L, by omega, ⟨h.on hb, Fr.of_below hb, fun k hk => .inl hk⟩, hI⟩
theorem at_pos {L : List FR} (hr : M.rise (names L)) {t : ByteArray} (ht : M.has (names L) t = true) : M.pos (names L) t < L.length ∧ (L.getD (M.pos (names L) t) z0).nm = t := by
  obtain ⟨hi, hj⟩ := has_pos hr ht
  rw [names_length] at hi
  exact ⟨hi, by rw [← names_at L hi]; exact hj⟩

theorem sync_saf {kb : ByteArray} {K : List Nat} {w : World} {D mb : Nat} {v : Value} {L : List FR} {f : Int → Int} {s : Int} (h : Dk w D mb v L f s false) (hs : 0 ≤ s ∧ s ≤ 1000000) (hk : f (s + 1) = 0) (hI : SfI kb K L) (t : ByteArray) (hne : t ≠ kb) :
    Calls Try.prog 19 #[.pointer (some ⟨D, 0, none⟩), .string t] w fun e w' => ∃ r, e = .returned (.int .i64 r) ∧ SafD kb K w D mb v L f s w' := by
  have hr := hI.rise
  by_cases hn : M.nam t = true
  · by_cases ht : M.has (names L) t = true
    · refine (sync_do h hs hk hr t hn ht).mono ?_
      rintro e w' ⟨rfl, sv', hT⟩
      obtain ⟨hi, hj⟩ := at_pos hr ht
      exact ⟨0, rfl, s + 1, v, _, by omega, hT.moved, hI.set hne hi hj _ rfl⟩
    · refine (sync_none h hs hk hr t hn (by simpa using ht)).mono ?_
      rintro e w' ⟨rfl, hT⟩
      exact ⟨2, rfl, s + 1, v, _, by omega, hT.moved, hI⟩
  · refine (sync_form D t (by simpa using hn) w).mono ?_
    rintro e w' ⟨rfl, hb⟩
    exact ⟨1, rfl, SafD.below h hI hb⟩

theorem delete_saf {kb : ByteArray} {K : List Nat} {w : World} {D mb : Nat} {v : Value} {L : List FR} {f : Int → Int} {s : Int} (h : Dk w D mb v L f s false) (hs : 0 ≤ s ∧ s ≤ 1000000) (hk : f (s + 1) = 0) (hI : SfI kb K L) (t : ByteArray) (hne : t ≠ kb) :
    Calls Try.prog 22 #[.pointer (some ⟨D, 0, none⟩), .string t] w fun e w' => ∃ r, e = .returned (.int .i64 r) ∧ SafD kb K w D mb v L f s w' := by
  have hr := hI.rise
  by_cases hn : M.nam t = true
  · by_cases ht : M.has (names L) t = true
    · refine (delete_do h hs hk hr t hn ht).mono ?_
      rintro e w' ⟨rfl, v', hT⟩
      obtain ⟨hi, hj⟩ := at_pos hr ht
      exact ⟨0, rfl, s + 1, v', _, by omega, hT, hI.gone hne hi hj⟩
    · refine (delete_none h hs hk hr t hn (by simpa using ht)).mono ?_
      rintro e w' ⟨rfl, hT⟩
      exact ⟨2, rfl, s + 1, v, _, by omega, hT.moved, hI⟩
  · refine (delete_form D t (by simpa using hn) w).mono ?_
    rintro e w' ⟨rfl, hb⟩
    exact ⟨1, rfl, SafD.below h hI hb⟩

theorem truncate_saf {kb : ByteArray} {K : List Nat} {w : World} {D mb : Nat} {v : Value} {L : List FR} {f : Int → Int} {s : Int} (h : Dk w D mb v L f s false) (hs : 0 ≤ s ∧ s ≤ 1000000) (hk : f (s + 1) = 0) (hI : SfI kb K L) (t : ByteArray) (hne : t ≠ kb) (n : Int) :
    Calls Try.prog 21 #[.pointer (some ⟨D, 0, none⟩), .string t, .int .i64 n] w fun e w' => ∃ r, e = .returned (.int .i64 r) ∧ SafD kb K w D mb v L f s w' := by
  have hr := hI.rise
  by_cases hnn : M.nam t = true ∧ (0 ≤ n ∧ n ≤ 4194304)
  · obtain ⟨hn, hl⟩ := hnn
    obtain ⟨m, rfl⟩ : ∃ m : Nat, n = m := ⟨n.toNat, by omega⟩
    by_cases ht : M.has (names L) t = true
    · refine (truncate_do h hs hk hr t hn m (by omega) ht).mono ?_
      rintro e w' ⟨rfl, sv', hT⟩
      obtain ⟨hi, hj⟩ := at_pos hr ht
      exact ⟨0, rfl, s + 1, v, _, by omega, hT.moved, hI.set hne hi hj _ rfl⟩
    · refine (truncate_none h hs hk hr t hn m (by omega) (by simpa using ht)).mono ?_
      rintro e w' ⟨rfl, hT⟩
      exact ⟨2, rfl, s + 1, v, _, by omega, hT.moved, hI⟩
  · refine (truncate_form D t n (by
      by_cases h1 : M.nam t = true
      · exact .inr (fun h2 => hnn ⟨h1, h2⟩)
      · exact .inl (by simpa using h1)) w).mono ?_
    rintro e w' ⟨rfl, hb⟩
    exact ⟨1, rfl, SafD.below h hI hb⟩

theorem write_saf {kb : ByteArray} {K : List Nat} {w : World} {D mb : Nat} {v : Value} {L : List FR} {f : Int → Int} {s : Int} (h : Dk w D mb v L f s false) (hs : 0 ≤ s ∧ s ≤ 1000000) (hk : f (s + 1) = 0) (hI : SfI kb K L) (t : ByteArray) (hne : t ≠ kb)
    (p : Int) (ba : Option Addr) (bc : Nat) (b : List Nat) (hb : Sees w (.slice ba b.length bc) b) (hbf : ∀ a, ba = some a → a.block ∉ foot D mb v L) :
    Calls Try.prog 18 #[.pointer (some ⟨D, 0, none⟩), .string t, .int .i64 p, .slice ba b.length bc] w fun e w' => ∃ r, e = .returned (.int .i64 r) ∧ SafD kb K w D mb v L f s w' := by
  have hr := hI.rise
  by_cases hnn : M.nam t = true ∧ 1 ≤ b.length ∧ 0 ≤ p ∧ p + b.length ≤ 4194304
  · obtain ⟨hn, hb1, hp0, hp1⟩ := hnn
    obtain ⟨p, rfl⟩ : ∃ m : Nat, p = m := ⟨p.toNat, by omega⟩
    by_cases ht : M.has (names L) t = true
    · refine (write_there_do h hs hk hr t hn ht p ba bc b hb hbf hb1 (by omega)).mono ?_
      rintro e w' ⟨rfl, sv', hT⟩
      obtain ⟨hi, hj⟩ := at_pos hr ht
      exact ⟨0, rfl, s + 1, v, _, by omega, hT.moved, hI.set hne hi hj _ rfl⟩
    · have ht' : M.has (names L) t = false := by simpa using ht
      have hpl := M.pos_le (names L) t
      rw [names_length] at hpl
      by_cases h16 : L.length < 16
      · by_cases hend : M.pos (names L) t = L.length
        · refine (write_new_do h hs hk hr t hn ht' hend h16 p ba bc b hb hbf hb1 (by omega)).mono ?_
          rintro e w' ⟨rfl, v', nv', hT⟩
          exact ⟨0, rfl, s + 1, v', _, by omega, hT, hI.push hn ht' hend rfl⟩
        · refine (write_mid_do h hs hk hr t hn ht' rfl (by omega) h16 p ba bc b hb hbf hb1 (by omega)).mono ?_
          rintro e w' ⟨rfl, v', nv', hT⟩
          exact ⟨0, rfl, s + 1, v', _, by omega, hT, hI.mid hn ht' rfl⟩
      · refine (write_full_do h hs hk hr t hn ht' (by have := h.2.1.2; omega) p ba bc b hb1 (by omega)).mono ?_
        rintro e w' ⟨rfl, hT⟩
        exact ⟨10, rfl, s + 1, v, _, by omega, hT.moved, hI⟩
  · refine (write_form D t p ba b.length bc hb.2 (fun h2 => hnn h2) w).mono ?_
    rintro e w' ⟨rfl, hb⟩
    exact ⟨1, rfl, SafD.below h hI hb⟩

/-- The file itself, made and synced: from nothing of its name. -/
theorem kept_made {kb : ByteArray} {K : List Nat} {w : World} {D mb : Nat} {v : Value} {L : List FR} {f : Int → Int} {s : Int} (h : Dk w D mb v L f s false) (hs : 0 ≤ s ∧ s ≤ 1000000) (hk : f (s + 1) = 0) (hr : M.rise (names L)) (hnm : ∀ x ∈ L, M.nam x.nm = true) (hkb : M.nam kb = true) (ht : M.has (names L) kb = false) (h16 : L.length < 16)
    (ba : Option Addr) (bc : Nat) (hb : Sees w (.slice ba K.length bc) K) (hbf : ∀ a, ba = some a → a.block ∉ foot D mb v L) (hb1 : 1 ≤ K.length) (hp : K.length ≤ 4194304) :
    Calls Try.prog 18 #[.pointer (some ⟨D, 0, none⟩), .string kb, .int .i64 0, .slice ba K.length bc] w fun e w' => e = .returned (.int .i64 0) ∧ ∃ v' L', Moved w D mb v L f (s + 1) false v' L' w' ∧ M.rise (names L') ∧ (∀ x ∈ L', M.nam x.nm = true) ∧ M.has (names L') kb = true ∧ ∃ x ∈ L', x.nm = kb ∧ x.seen = K := by
  have hI0 : ∀ (y : FR), y.nm = kb → M.rise (names (L.take (M.pos (names L) kb) ++ y :: L.drop (M.pos (names L) kb))) ∧ (∀ x ∈ L.take (M.pos (names L) kb) ++ y :: L.drop (M.pos (names L) kb), M.nam x.nm = true) ∧ M.has (names (L.take (M.pos (names L) kb) ++ y :: L.drop (M.pos (names L) kb))) kb = true := by
    intro y hy
    refine ⟨by rw [names_mid, hy]; exact M.rise_insert hr ht, fun x hx => ?_, ?_⟩
    · rcases List.mem_append.1 hx with hx | hx
      · exact hnm x (List.mem_of_mem_take hx)
      · rcases List.mem_cons.1 hx with rfl | hx
        · rw [hy]; exact hkb
        · exact hnm x (List.mem_of_mem_drop hx)
    · unfold M.has
      rw [List.any_eq_true]
      exact ⟨kb, by rw [names_mid, hy]; simp, by simp⟩
  have hput : M.put [] 0 K = K := by simp [M.put, M.sz]
  have hpl := M.pos_le (names L) kb
  rw [names_length] at hpl
  by_cases hend : M.pos (names L) kb = L.length
  · refine (write_new_do h hs hk hr kb hkb ht hend h16 0 ba bc K hb hbf hb1 (by omega)).mono ?_
    rintro e w' ⟨rfl, v', nv', hT⟩
    refine ⟨rfl, v', _, hT, ?_⟩
    have := hI0 (kb, .slice none 0 0, nv', [], M.put [] 0 K) rfl
    rw [hend, List.take_of_length_le (Nat.le_refl _), List.drop_of_length_le (Nat.le_refl _)] at this
    exact ⟨this.1, this.2.1, this.2.2, (kb, .slice none 0 0, nv', [], M.put [] 0 K), by simp, rfl, hput⟩
  · refine (write_mid_do h hs hk hr kb hkb ht rfl (by omega) h16 0 ba bc K hb hbf hb1 (by omega)).mono ?_
    rintro e w' ⟨rfl, v', nv', hT⟩
    have := hI0 (kb, .slice none 0 0, nv', [], M.put [] 0 K) rfl
    exact ⟨rfl, v', _, hT, this.1, this.2.1, this.2.2, (kb, .slice none 0 0, nv', [], M.put [] 0 K), by simp, rfl, hput⟩
theorem kept_synced {kb : ByteArray} {K : List Nat} {w : World} {D mb : Nat} {v : Value} {L : List FR} {f : Int → Int} {s : Int} (h : Dk w D mb v L f s false) (hs : 0 ≤ s ∧ s ≤ 1000000) (hk : f (s + 1) = 0) (hr : M.rise (names L)) (hnm : ∀ x ∈ L, M.nam x.nm = true) (ht : M.has (names L) kb = true) (hx : ∃ x ∈ L, x.nm = kb ∧ x.seen = K) :
    Calls Try.prog 19 #[.pointer (some ⟨D, 0, none⟩), .string kb] w fun e w' => e = .returned (.int .i64 0) ∧ ∃ L', Moved w D mb v L f (s + 1) false v L' w' ∧ SfI kb K L' := by
  obtain ⟨hi, hj⟩ := at_pos hr ht
  have hkb : M.nam kb = true := by have := hnm _ (getD_mem L hi); rwa [hj] at this
  have hseen : (L.getD (M.pos (names L) kb) z0).seen = K := by
    obtain ⟨x, hx, e, r⟩ := hx
    obtain ⟨j, hj2, rfl⟩ := List.mem_iff_getElem.1 hx
    have hjj : j = M.pos (names L) kb := by
      rcases Nat.lt_trichotomy j (M.pos (names L) kb) with hlt | heq | hgt
      · exfalso
        have := List.pairwise_iff_getElem.1 hr j (M.pos (names L) kb) (by rw [names_length]; exact hj2) (by rw [names_length]; exact hi) hlt
        have e1 : (names L)[j]'(by rw [names_length]; exact hj2) = kb := by simpa [names] using e
        have e2 : (names L)[M.pos (names L) kb]'(by rw [names_length]; exact hi) = kb := by
          have := (names_at L hi).trans hj
          simpa [List.getD_eq_getElem?_getD, names_length, hi] using this
        rw [e1, e2, M.less_self] at this
        cases this
      · exact heq
      · exfalso
        have := List.pairwise_iff_getElem.1 hr (M.pos (names L) kb) j (by rw [names_length]; exact hi) (by rw [names_length]; exact hj2) hgt
        have e1 : (names L)[j]'(by rw [names_length]; exact hj2) = kb := by simpa [names] using e
        have e2 : (names L)[M.pos (names L) kb]'(by rw [names_length]; exact hi) = kb := by
          have := (names_at L hi).trans hj
          simpa [List.getD_eq_getElem?_getD, names_length, hi] using this
        rw [e1, e2, M.less_self] at this
        cases this
    subst hjj
    rw [← r]
    simp [List.getD_eq_getElem?_getD, hi]
  refine (sync_do h hs hk hr kb hkb ht).mono ?_
  rintro e w' ⟨rfl, sv', hT⟩
  refine ⟨rfl, _, hT.moved, by rw [names_set L hi] <;> first | exact hr | rfl, fun x hx => ?_, ?_⟩
  · rcases List.mem_or_eq_of_mem_set hx with hx | rfl
    · exact hnm x hx
    · show M.nam (L.getD (M.pos (names L) kb) z0).nm = true
      exact hnm _ (getD_mem L hi)
  · exact ⟨((L.getD (M.pos (names L) kb) z0).nm, sv', (L.getD (M.pos (names L) kb) z0).nv, (L.getD (M.pos (names L) kb) z0).seen, (L.getD (M.pos (names L) kb) z0).seen), List.mem_set hi _, hj, hseen, hseen⟩

theorem M.crash_same (S : List Nat) (ps : List Int) : M.crash S S ps = (S, ps) := by
  have h1 : M.len1 S S ps = (S.length, ps) := by simp [M.len1]
  have h3 : ∀ i, M.secs S S ps i = (M.sz S (64 * i), ps) := by
    intro i
    induction i with
    | zero => simp [M.secs, M.sz]
    | succ i ih => rw [M.secs, ih]; simp only [M.sec1, if_true]; rw [M.sz_step]
  unfold M.crash
  rw [h1, h3]
  have h2 : S.length ≤ 64 * M.cnt S S := by unfold M.cnt; omega
  simp only
  rw [M.sz_cut _ (by rw [M.sz_length]; exact h2), M.sz_fill S h2]
  simp
theorem M.crash_length {S N : List Nat} {ps : List Int} {B : Nat} (h1 : S.length ≤ B) (h2 : N.length ≤ B) : (M.crash S N ps).1.length ≤ B := by
  unfold M.crash
  simp only [M.sz_length]
  unfold M.len1
  split
  · exact h1
  · simp only; split <;> assumption
theorem crs_length (L : List FR) (ps : List Int) : ∀ k, (crs L ps k).1.length = k
  | 0 => rfl
  | k + 1 => by rw [crs]; simp [crs_length L ps k]
theorem crs_at (L : List FR) (ps : List Int) : ∀ k j, j < k → (crs L ps k).1[j]? = some ((L.getD j z0).nm, (M.crash (L.getD j z0).safe (L.getD j z0).seen (crs L ps j).2).1)
  | 0, j, h => by omega
  | k + 1, j, h => by
    rw [crs]
    by_cases hj : j < k
    · rw [List.getElem?_append_left (by rw [crs_length]; exact hj)]
      exact crs_at L ps k j hj
    · obtain rfl : j = k := by omega
      rw [List.getElem?_append_right (by rw [crs_length]; omega), crs_length]
      simp
/-- A disk whose files are safe as they are seen: a crash tells them. -/
theorem crs_same {L : List FR} (h : ∀ x ∈ L, x.safe = x.seen) (ps : List Int) : (crs L ps L.length).1 = L.map (fun x => (x.nm, x.seen)) := by
  apply List.ext_getElem?
  intro j
  by_cases hj : j < L.length
  · rw [crs_at L ps _ j hj, h _ (getD_mem L hj), M.crash_same]
    simp [List.getD_eq_getElem?_getD, hj]
  · rw [List.getElem?_eq_none (by rw [crs_length]; omega), List.getElem?_eq_none (by simp; omega)]

/-- What a crash tells of a disk: names and lengths are as New asks. -/
theorem crash_ok {L : List FR} {R : List GR} {ps : List Int} (hR : R.map gab = (crs L ps L.length).1) (hr : M.rise (names L)) (hn : ∀ x ∈ L, M.nam x.nm = true) (h16 : L.length ≤ 16) (hl : ∀ x ∈ L, x.safe.length ≤ 4194304 ∧ x.seen.length ≤ 4194304) :
    R.length = L.length ∧ filesOk R = true ∧ ∀ j, j < R.length → (R.getD j g0).1 = (L.getD j z0).nm ∧ (R.getD j g0).2.2 = (M.crash (L.getD j z0).safe (L.getD j z0).seen (crs L ps j).2).1 ∧ (R.getD j g0).2.2.length ≤ 4194304 := by
  have hlen : R.length = L.length := by
    have := congrArg List.length hR
    rw [List.length_map, crs_length] at this
    exact this
  have hat : ∀ j, j < R.length → (R.getD j g0).1 = (L.getD j z0).nm ∧ (R.getD j g0).2.2 = (M.crash (L.getD j z0).safe (L.getD j z0).seen (crs L ps j).2).1 ∧ (R.getD j g0).2.2.length ≤ 4194304 := by
    intro j hj
    have h1 := crs_at L ps L.length j (by omega)
    rw [← hR] at h1
    simp only [List.getElem?_map, List.getElem?_eq_getElem hj, Option.map_some, Option.some.injEq, gab, Prod.mk.injEq] at h1
    have e : R.getD j g0 = R[j] := by simp [List.getD_eq_getElem?_getD, hj]
    obtain ⟨b1, b2⟩ := hl _ (getD_mem L (i := j) (by omega))
    rw [e]
    exact ⟨h1.1, h1.2, by rw [h1.2]; exact M.crash_length b1 b2⟩
  refine ⟨hlen, fOk_all (fun j hj => ?_) (by omega), hat⟩
  obtain ⟨e1, _, e3⟩ := hat j hj
  have hjL : j < L.length := by omega
  unfold fOk
  rw [e1, hn _ (getD_mem L hjL), decide_eq_true e3, Bool.and_self, Bool.true_and]
  by_cases h0 : j = 0
  · rw [h0]; rfl
  · obtain ⟨i, rfl⟩ : ∃ i, j = i + 1 := ⟨j - 1, by omega⟩
    rw [show i + 1 - 1 = i from rfl, (hat i (by omega)).1, ← names_at L hjL, ← names_at L (by omega : i < L.length)]
    have := List.pairwise_iff_getElem.1 hr i (i + 1) (by rw [names_length]; omega) (by rw [names_length]; omega) (by omega)
    rw [Bool.or_eq_true]
    right
    have ha : i < (names L).length := by rw [names_length]; omega
    have hb : i + 1 < (names L).length := by rw [names_length]; omega
    simpa [List.getD_eq_getElem?_getD, ha, hb] using this
end Go.Proofs.Ythkjjebghfcgkaa
