/-
  What DiskSafe's walk leans on.
-/
import Derived.Test.YthkjjebghfcgkaaCo
import Derived.Test.YthkjjebghfcgkaaLt
import Derived.Test.YthkjjebghfcgkaaMa
import Derived.Test.YthkjjebghfcgkaaMg8
import Derived.Lib.SlBytesConst
namespace Go.Proofs.Ythkjjebghfcgkaa
open Go.ChangeShapes Go.WideShapes Go.ChangeAt Go.RowKit Go.Deep Go.Maps

theorem within_num (i : Int) (n : Nat) (h1 : 1 ≤ n) (h2 : n ≤ 9223372036854775807) : ∃ r : Nat, wrap64 ((IntKind.u64.wrap i).tmod n) = (r : Int) ∧ r < n := by
  have h0 : 0 ≤ IntKind.u64.wrap i := by
    simp only [IntKind.wrap, IntKind.bits, IntKind.signed]
    simp
    omega
  generalize IntKind.u64.wrap i = x at *
  rw [Int.tmod_eq_emod_of_nonneg h0]
  have h3 := Int.emod_nonneg x (b := (n : Int)) (by omega)
  have h4 := Int.emod_lt_of_pos x (b := (n : Int)) (by omega)
  generalize x % (n : Int) = y at *
  refine ⟨y.toNat, ?_, by omega⟩
  rw [Int.toNat_of_nonneg h3]
  unfold wrap64
  omega
/-- One number below n, whatever the world is. -/
theorem within_ex (i : Int) (n : Nat) (N : Int) (hN : N = (n : Int)) (h1 : 1 ≤ n) (h2 : n ≤ 9223372036854775807) :
    ∃ r : Nat, r < n ∧ ∀ w : World, Calls Try.prog 20 #[.int .i64 i, .int .i64 N] w fun e w' => e = .returned (.int .i64 r) ∧ w' = w := by
  subst hN
  obtain ⟨r, hr, hlt⟩ := within_num i n h1 h2
  refine ⟨r, hlt, fun w => ?_⟩
  have hz : ((n : Int) == 0) = false := by rw [beq_eq_false_iff_ne]; omega
  go_enter Try.func20, Try.ntmps20
  go_wp2
  go_ret
  refine ⟨?_, rfl⟩
  rw [← hr]
  rfl

theorem rise_files {F : List GR} (h : filesOk F = true) : M.rise (F.map (·.1)) := by
  unfold filesOk at h
  rw [Bool.and_eq_true, List.all_eq_true] at h
  have hstep : ∀ j, j + 1 < F.length → M.less (F.getD j g0).1 (F.getD (j + 1) g0).1 = true := fun j hj => by
    have := h.2 (j + 1) (by simpa using hj)
    unfold fOk at this
    simp only [Bool.and_eq_true, Bool.or_eq_true, decide_eq_true_eq] at this
    rcases this.2 with e | e
    · omega
    · simpa using e
  have hall : ∀ d i, i + d + 1 < F.length → M.less (F.getD i g0).1 (F.getD (i + d + 1) g0).1 = true := by
    intro d
    induction d with
    | zero => intro i hi; exact hstep i (by omega)
    | succ d ih => intro i hi; exact M.less_step (ih i (by omega)) (hstep (i + d + 1) (by omega))
  unfold M.rise
  rw [List.pairwise_iff_getElem]
  intro i j hi hj hij
  simp only [List.length_map] at hi hj
  have := hall (j - i - 1) i (by omega)
  rw [show i + (j - i - 1) + 1 = j by omega] at this
  simpa [List.getD_eq_getElem?_getD, hi, hj] using this
theorem names_of {L : List FR} {F : List GR} (h : L.map fabs = F.map gabs) : names L = F.map (·.1) := by
  have := congrArg (List.map Prod.fst) h
  simpa [names, List.map_map, Function.comp_def, fabs, gabs] using this

theorem litd_cell {w w' : World} {D mb : Nat} {v : Value} {L : List FR} {f : Int → Int} {s r : Int} (h : LitD w D mb v L f s r w') {a : Addr} {u : Value} (hc : w.cell? a = some u) (hn : a.block ∉ foot D mb v L) : w'.cell? a = some u := by
  obtain ⟨_, hb⟩ | ⟨_, _, hT⟩ | ⟨_, _, v', L', hM, _⟩ := h
  · exact cell_on hb hc
  · exact hT.2.1.cell hc hn
  · exact hM.2.1.cell hc hn
theorem litd_outs {w w' : World} {D mb : Nat} {v : Value} {L : List FR} {f : Int → Int} {s r : Int} (h : LitD w D mb v L f s r w') {b0 : Nat} {t : Value} {R : List GR} (hO : Outs w b0 t R) (hn : ∀ k ∈ foot D mb v L, k < b0) : Outs w' b0 t R := by
  obtain ⟨_, hb⟩ | ⟨_, _, hT⟩ | ⟨_, _, v', L', hM, _⟩ := h
  · exact hO.fr (Fr.of_below (fs := []) hb) (by simp)
  · exact hO.fr hT.2.1 (fun k hk => .inl (hn k hk))
  · exact hO.fr hM.2.1 (fun k hk => .inl (hn k hk))
theorem first_one (n k : Int) (j : Int) : first [(n, k)] j = if n = j then k else 0 := by simp [first]
end Go.Proofs.Ythkjjebghfcgkaa

namespace Go.Proofs.Ythkjjebghfcgkaa
open Go.ChangeShapes Go.WideShapes Go.ChangeAt Go.RowKit Go.Deep Go.Maps

def KB : ByteArray := ⟨#[107, 101, 112, 116]⟩
def K85 : List Nat := [107, 101, 112, 116, 32, 102, 111, 114, 32, 101, 118, 101, 114, 44, 32, 115, 101, 99, 116, 111, 114, 32, 98, 121, 32, 115, 101, 99, 116, 111, 114, 44, 32, 97, 115, 32, 105, 116, 32, 119, 97, 115, 32, 115, 121, 110, 99, 101, 100, 44, 32, 97, 110, 100, 32, 110, 111, 116, 32, 97, 32, 98, 121, 116, 101, 32, 111, 102, 32, 105, 116, 32, 105, 115, 32, 116, 111, 32, 98, 101, 32, 108, 111, 115, 116]
theorem nam_kept : M.nam KB = true := by decide

/-- A disk in DiskSafe's walk: the file that is kept, and what was written to it. -/
structure Sw (w0 w : World) (D mb : Nat) (dv : Value) (L : List FR) (f : Int → Int) (s : Int) (kb : ByteArray) (K : List Nat) (kv : Value) : Prop where
  lw : Lw w0 w D mb dv L f s false
  si : SfI kb K L
  see : Sees w kv K
  off : ∀ a n c, kv = .slice (some a) n c → a.block < w.heap.size ∧ a.block ∉ foot D mb dv L
theorem Sw.below {w0 w w' : World} {D mb : Nat} {dv : Value} {L : List FR} {f : Int → Int} {s : Int} {kb : ByteArray} {K : List Nat} {kv : Value} (h : Sw w0 w D mb dv L f s kb K kv) (g : Below w.heap.size w w') : Sw w0 w' D mb dv L f s kb K kv :=
  ⟨h.lw.below g, h.si, h.see.below g, fun a n c e => ⟨Nat.lt_of_lt_of_le (h.off a n c e).1 g.size, (h.off a n c e).2⟩⟩
theorem Sw.stroke {w0 w w' : World} {D mb : Nat} {dv : Value} {L : List FR} {f : Int → Int} {s : Int} {kb : ByteArray} {K : List Nat} {kv : Value} (h : Sw w0 w D mb dv L f s kb K kv) (g : SafD kb K w D mb dv L f s w') :
    ∃ s' dv' L', (s ≤ s' ∧ s' ≤ s + 1) ∧ Sw w0 w' D mb dv' L' f s' kb K kv := by
  obtain ⟨s', dv', L', hs, hM, hI⟩ := g
  refine ⟨s', dv', L', hs, h.lw.moved hM, hI, hM.2.1.sees h.see (fun a n c e => (h.off a n c e).2), fun a n c e => ?_⟩
  obtain ⟨h1, h2⟩ := h.off a n c e
  refine ⟨Nat.lt_of_lt_of_le h1 hM.2.1.2.1, fun hm => ?_⟩
  rcases hM.2.2 _ hm with h3 | h3
  · exact h2 h3
  · omega
theorem safd_cell {kb : ByteArray} {K : List Nat} {w w' : World} {D mb : Nat} {v : Value} {L : List FR} {f : Int → Int} {s : Int} (h : SafD kb K w D mb v L f s w') {a : Addr} {u : Value} (hc : w.cell? a = some u) (hn : a.block ∉ foot D mb v L) : w'.cell? a = some u := by
  obtain ⟨_, _, _, _, hM, _⟩ := h
  exact hM.2.1.cell hc hn

/-- Is the file that is kept among the first k? -/
def fnd (R : List GR) (kb : ByteArray) (K : List Nat) : Nat → Bool
  | 0 => false
  | k + 1 => fnd R kb K k || (decide ((R.getD k g0).1 = kb) && decide ((R.getD k g0).2.2 = K))
theorem fnd_at {R : List GR} {kb : ByteArray} {K : List Nat} {j : Nat} (h1 : (R.getD j g0).1 = kb) (h2 : (R.getD j g0).2.2 = K) : ∀ k, j < k → fnd R kb K k = true
  | 0, h => by omega
  | k + 1, h => by
    rw [fnd]
    by_cases hj : j < k
    · rw [fnd_at h1 h2 k hj]; rfl
    · obtain rfl : j = k := by omega
      rw [decide_eq_true h1, decide_eq_true h2]
      simp
theorem fnd_all {L : List FR} {R : List GR} {ps : List Int} {kb : ByteArray} {K : List Nat} (hR : R.map gab = (crs L ps L.length).1) (hI : SfI kb K L) (h16 : L.length ≤ 16) (hl : ∀ x ∈ L, x.safe.length ≤ 4194304 ∧ x.seen.length ≤ 4194304) : fnd R kb K R.length = true := by
  obtain ⟨e, _, hat⟩ := crash_ok hR hI.rise hI.nam h16 hl
  obtain ⟨x, hx, h1, h2, h3⟩ := hI.kept
  obtain ⟨j, hj, rfl⟩ := List.mem_iff_getElem.1 hx
  obtain ⟨e1, e2, _⟩ := hat j (by omega)
  have ex : L.getD j z0 = L[j] := by simp [List.getD_eq_getElem?_getD, hj]
  rw [ex] at e1 e2
  rw [h2, h3, M.crash_same] at e2
  exact fnd_at (e1.trans h1) e2 _ (by omega)

/-- A name of the disk stands at its place. -/
theorem pos_at {L : List FR} (hr : M.rise (names L)) {k : Nat} (hk : k < L.length) : M.has (names L) (L.getD k z0).nm = true ∧ M.pos (names L) (L.getD k z0).nm = k := by
  have hh : M.has (names L) (L.getD k z0).nm = true := M.has_at (p := k) (by rw [names_length]; exact hk) (names_at L hk)
  refine ⟨hh, ?_⟩
  obtain ⟨hi, hj⟩ := at_pos hr hh
  have ek : (names L)[k]'(by rw [names_length]; exact hk) = (L.getD k z0).nm := by
    have := names_at L hk
    simpa [List.getD_eq_getElem?_getD, names_length, hk] using this
  have ep : (names L)[M.pos (names L) (L.getD k z0).nm]'(by rw [names_length]; exact hi) = (L.getD k z0).nm := by
    have := (names_at L hi).trans hj
    rw [List.getD_eq_getElem?_getD, List.getElem?_eq_getElem (by rw [names_length]; exact hi)] at this
    exact this
  rcases Nat.lt_trichotomy (M.pos (names L) (L.getD k z0).nm) k with hlt | heq | hgt
  · have := List.pairwise_iff_getElem.1 hr _ k (by rw [names_length]; exact hi) (by rw [names_length]; exact hk) hlt
    rw [ep, ek, M.less_self] at this
    cases this
  · exact heq
  · have := List.pairwise_iff_getElem.1 hr k _ (by rw [names_length]; exact hk) (by rw [names_length]; exact hi) hgt
    rw [ep, ek, M.less_self] at this
    cases this

/-- A disk of files that were told: names, bytes, what its crash tells. -/
theorem told_disk {L : List FR} {R R2 : List GR} (habs : L.map fabs = R2.map gabs) (hR2 : R2.map gab = R.map gab) (hok : filesOk R = true) :
    L.length = R.length ∧ M.rise (names L) ∧ (∀ x ∈ L, x.safe = x.seen) ∧ (∀ k, k < R.length → (L.getD k z0).nm = (R.getD k g0).1 ∧ (L.getD k z0).seen = (R.getD k g0).2.2 ∧ M.nam (R.getD k g0).1 = true) ∧ L.map (fun x => (x.nm, x.seen)) = R.map gab := by
  have hlen2 : R2.length = R.length := by simpa using congrArg List.length hR2
  have hlen : L.length = R2.length := by simpa using congrArg List.length habs
  have hn : names L = R.map (·.1) := by
    rw [names_of habs]
    have := congrArg (List.map Prod.fst) hR2
    simpa [List.map_map, Function.comp_def, gab] using this
  have hat : ∀ k, k < R.length → (L.getD k z0).nm = (R.getD k g0).1 ∧ (L.getD k z0).safe = (R.getD k g0).2.2 ∧ (L.getD k z0).seen = (R.getD k g0).2.2 := by
    intro k hk
    have h1 : k < L.length := by omega
    have h2 : k < R2.length := by omega
    have e1 : (L.map fabs)[k]? = (R2.map gabs)[k]? := by rw [habs]
    have e2 : (R2.map gab)[k]? = (R.map gab)[k]? := by rw [hR2]
    simp only [List.getElem?_map, List.getElem?_eq_getElem h1, List.getElem?_eq_getElem h2, List.getElem?_eq_getElem hk, Option.map_some, Option.some.injEq, fabs, gabs, gab, Prod.mk.injEq] at e1 e2
    have a1 : L.getD k z0 = L[k] := by simp [List.getD_eq_getElem?_getD, h1]
    have a3 : R.getD k g0 = R[k] := by simp [List.getD_eq_getElem?_getD, hk]
    rw [a1, a3]
    exact ⟨e1.1.trans e2.1, e1.2.1.trans e2.2, e1.2.2.trans e2.2⟩
  refine ⟨by omega, by rw [hn]; exact rise_files hok, fun x hx => ?_, fun k hk => ?_, ?_⟩
  · obtain ⟨j, hj, rfl⟩ := List.mem_iff_getElem.1 hx
    obtain ⟨_, h1, h2⟩ := hat j (by omega)
    have a1 : L.getD j z0 = L[j] := by simp [List.getD_eq_getElem?_getD, hj]
    rw [a1] at h1 h2
    rw [h1, h2]
  · refine ⟨(hat k hk).1, (hat k hk).2.2, ?_⟩
    unfold filesOk at hok
    rw [Bool.and_eq_true, List.all_eq_true] at hok
    have := hok.2 k (by simpa using hk)
    unfold fOk at this
    simp only [Bool.and_eq_true] at this
    exact this.1.1
  · apply List.ext_getElem?
    intro k
    by_cases hk : k < R.length
    · obtain ⟨h1, _, h3⟩ := hat k hk
      have hkL : k < L.length := by omega
      have a1 : L.getD k z0 = L[k] := by simp [List.getD_eq_getElem?_getD, hkL]
      have a3 : R.getD k g0 = R[k] := by simp [List.getD_eq_getElem?_getD, hk]
      rw [a1, a3] at h1 h3
      simp only [List.getElem?_map, List.getElem?_eq_getElem hkL, List.getElem?_eq_getElem hk, Option.map_some, gab]
      rw [h1, h3]
    · rw [List.getElem?_eq_none (by simp; omega), List.getElem?_eq_none (by simp; omega)]

theorem filesOk_gab {A B : List GR} (h : A.map gab = B.map gab) : filesOk A = filesOk B := by
  have hl : A.length = B.length := by simpa using congrArg List.length h
  have hat : ∀ j, (A.getD j g0).1 = (B.getD j g0).1 ∧ (A.getD j g0).2.2 = (B.getD j g0).2.2 := by
    intro j
    by_cases hj : j < A.length
    · have hjb : j < B.length := by omega
      have e : (A.map gab)[j]? = (B.map gab)[j]? := by rw [h]
      simp only [List.getElem?_map, List.getElem?_eq_getElem hj, List.getElem?_eq_getElem hjb, Option.map_some, Option.some.injEq, gab, Prod.mk.injEq] at e
      simpa [List.getD_eq_getElem?_getD, hj, hjb] using e
    · have hjb : ¬ j < B.length := by omega
      simp [List.getD_eq_getElem?_getD, hj, hjb]
  have hf : ∀ j, fOk A j = fOk B j := fun j => by unfold fOk; rw [(hat j).1, (hat j).2, (hat (j - 1)).1]
  unfold filesOk
  rw [hl, show fOk A = fOk B from funext hf]
theorem len_gab {A B : List GR} (h : A.map gab = B.map gab) : A.length = B.length := by simpa using congrArg List.length h
theorem ok_len {A : List GR} (h : filesOk A = true) : A.length ≤ 16 ∧ ∀ j, j < A.length → (A.getD j g0).2.2.length ≤ 4194304 := by
  unfold filesOk at h
  rw [Bool.and_eq_true, List.all_eq_true, decide_eq_true_iff] at h
  refine ⟨h.1, fun j hj => ?_⟩
  have := h.2 j (by simpa using hj)
  unfold fOk at this
  simp only [Bool.and_eq_true, decide_eq_true_eq] at this
  exact this.1.2

/-- The picks of the second crash. -/
theorem ins_five (w : World) : Ins (w.alloc (.cells #[.int .i64 1, .int .i64 1, .int .i64 1, .int .i64 5, .int .i64 5] 3)) (.slice (some ⟨w.heap.size, 0, none⟩) 5 5) [1, 1, 1, 5, 5] := by
  refine ⟨some ⟨w.heap.size, 0, none⟩, 5, rfl, by simp, by omega, fun _ => ⟨w.heap.size, 0, rfl, fun j hj => ?_⟩⟩
  rw [World.cell?_alloc_at _ _ _ _ rfl]
  match j, hj with
  | 0, _ => rfl
  | 1, _ => rfl
  | 2, _ => rfl
  | 3, _ => rfl
  | 4, _ => rfl
  | j + 5, h => simp at h; omega

/-- A row of strings. -/
theorem strs_open {w : World} {base : Nat} {v : Value} {n : Nat} {xs : List Value} (h : w.ownsRow base 9 1 v n xs) : ∃ a c, v = .slice a n c ∧ (1 ≤ n → ∃ g, a = some ⟨g, 0, none⟩ ∧ ∀ k, k < n → ∀ u, xs[k]? = some u → w.cell? ⟨g, k, none⟩ = some u) := by
  rcases h.2 with ⟨rfl, h0⟩ | ⟨g, cap, cur, rfl, _⟩
  · exact ⟨none, 0, by rw [h0], fun h => by omega⟩
  · refine ⟨some ⟨g, 0, none⟩, cap, rfl, fun _ => ⟨g, rfl, fun k hk u hu => ?_⟩⟩
    have k1 := h.cells (g := g) rfl k u hu
    have ha : ∀ q, (⟨g, 0, none⟩ : Addr).add q = ⟨g, q, none⟩ := fun q => by unfold Addr.add; split <;> simp_all
    rw [ha] at k1
    exact k1
end Go.Proofs.Ythkjjebghfcgkaa
