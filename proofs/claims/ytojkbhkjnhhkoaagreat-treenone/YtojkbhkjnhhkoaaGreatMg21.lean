/-
  Plain mathematics of a tree's cells: keys, lengths, what a leaf's cell is.
  A tree's cells as they lie in memory; the contracts of number, keyOf, length, isRecord and of what asks them.
  The contracts of what asks a knot's cells: formed, key, rises.
  The contracts of rises and find.
  A key found among a knot's cells.
-/
import Derived.Test.YtojkbhkjnhhkoaaGreatMg20
import Derived.Test.YtojkbhkjnhhkoaaGreatRows
namespace Go.Proofs.YtojkbhkjnhhkoaaGreat.T
open Go.Proofs.YtojkbhkjnhhkoaaGreat.Nod

/-- A cell's key; how many bytes a leaf's cell is for; whether it is a leaf's cell. -/
def key (c : List Nat) : Int := IntKind.i64.wrap ((M.nv 0 (c.take 8) : Nat) : Int)
def len (c : List Nat) : Nat := M.nv 0 ((c.drop 8).take 2)
def isRec (c : List Nat) : Bool := decide (10 ≤ c.length) && (if len c ≤ 113 then decide (c.length = 10 + len c) else decide (len c ≤ 16384) && decide (c.length = 12))
/-- The number as eight bytes spell it. -/
def u64 (k : Int) : Nat := (k % 18446744073709551616).toNat
/-- A short record's cell. -/
def shortC (k : Int) (d : List Nat) : List Nat := M.be 8 (u64 k) ++ (M.be 2 d.length ++ d)
def riseK (LL : List (List Nat)) : Prop := LL.Pairwise (fun a b => key a < key b)
def c0 : List Nat := []

theorem u64_lt (k : Int) : u64 k < 18446744073709551616 := by unfold u64; omega
theorem key_lt (c : List Nat) : -9223372036854775808 ≤ key c ∧ key c ≤ 9223372036854775807 := by
  unfold key
  generalize ((M.nv 0 (c.take 8) : Nat) : Int) = n
  simp only [IntKind.wrap, IntKind.signed, IntKind.bits]
  simp
  omega
theorem key_short (k : Int) (d : List Nat) (h1 : -9223372036854775808 ≤ k) (h2 : k ≤ 9223372036854775807) : key (shortC k d) = k := by
  unfold key shortC
  rw [List.take_left' (M.be_length _ _), M.nv_be]
  have := u64_lt k
  rw [Nat.zero_mul, Nat.zero_add, Nat.mod_eq_of_lt (by simpa using this)]
  unfold u64
  simp only [IntKind.wrap, IntKind.signed, IntKind.bits]
  simp
  omega
theorem len_short (k : Int) (d : List Nat) (h : d.length < 65536) : len (shortC k d) = d.length := by
  unfold len shortC
  rw [List.drop_left' (M.be_length _ _), List.take_left' (M.be_length _ _), M.nv_be, Nat.zero_mul, Nat.zero_add, Nat.mod_eq_of_lt (by simpa using h)]
theorem short_length (k : Int) (d : List Nat) : (shortC k d).length = 10 + d.length := by
  unfold shortC
  rw [List.length_append, List.length_append, M.be_length, M.be_length]
  omega
theorem short_lt (k : Int) (d : List Nat) (h : ∀ x ∈ d, x < 256) : ∀ x ∈ shortC k d, x < 256 := by
  intro x hx
  unfold shortC at hx
  rcases List.mem_append.1 hx with h1 | h1
  · exact M.be_lt _ _ x h1
  · rcases List.mem_append.1 h1 with h2 | h2
    · exact M.be_lt _ _ x h2
    · exact h x h2
theorem rec_short (k : Int) (d : List Nat) (h : d.length ≤ 113) : isRec (shortC k d) = true := by
  unfold isRec
  rw [short_length, len_short k d (by omega), if_pos h]
  simp
theorem short_data (k : Int) (d : List Nat) : (shortC k d).drop 10 = d := by
  unfold shortC
  rw [show (10 : Nat) = 8 + 2 from rfl, ← List.drop_drop, List.drop_left' (M.be_length _ _), List.drop_left' (M.be_length _ _)]
theorem riseK_lt {LL : List (List Nat)} (h : riseK LL) {i j : Nat} (hij : i < j) (hj : j < LL.length) : key (LL.getD i []) < key (LL.getD j []) := by
  have h1 := List.pairwise_iff_getElem.1 h i j (by omega) hj hij
  simpa [List.getD_eq_getElem?_getD, hj, show i < LL.length by omega] using h1
end Go.Proofs.YtojkbhkjnhhkoaaGreat.T
namespace Go.Proofs.YtojkbhkjnhhkoaaGreat.Nod
open Go.RowKit

/-- The slice value v shows cells, each within its room, in rows that are new since base. -/
def Cls (w : World) (base : Nat) (v : Value) (LL : List (List Nat)) : Prop :=
  (∃ a cap, v = .slice a LL.length cap ∧ LL.length ≤ cap ∧ (1 ≤ LL.length → ∃ b o, a = some ⟨b, o, none⟩ ∧ base ≤ b ∧ (∃ cur, w.heap[b]? = some (.cells cur 54 (0, 0))) ∧ ∀ j, j < LL.length → ∃ ua uc, w.cell? ⟨b, o + j, none⟩ = some (.slice ua (LL.getD j []).length uc) ∧ (LL.getD j []).length ≤ uc ∧ Sees w (.slice ua (LL.getD j []).length uc) (LL.getD j []) ∧ ∀ x, ua = some x → base ≤ x.block ∧ ∃ cur, w.heap[x.block]? = some (.cells cur 5 (0, 0)))) ∧ LL.length ≤ 1000000 ∧ (∀ c ∈ LL, c.length ≤ 1000000) ∧ ∀ c ∈ LL, ∀ x ∈ c, x < 256
theorem Cls.fr {w w' : World} {base : Nat} {v : Value} {LL : List (List Nat)} (h : Cls w base v LL) {fs : List Nat} (hF : Fr fs w w') (hn : ∀ k ∈ fs, k < base ∨ ∀ cur t, w.heap[k]? = some (.cells cur t (0, 0)) → t ≠ 54 ∧ t ≠ 5) : Cls w' base v LL := by
  obtain ⟨⟨a, cap, rfl, hcap, hc⟩, hm⟩ := h
  refine ⟨⟨a, cap, rfl, hcap, fun h1 => ?_⟩, hm⟩
  obtain ⟨b, o, rfl, hb, ⟨cur, hcur⟩, hj⟩ := hc h1
  have hbn : b ∉ fs := fun hk => by
    rcases hn b hk with h | h
    · omega
    · exact (h _ _ hcur).1 rfl
  refine ⟨b, o, rfl, hb, ⟨cur, (hF.2.2 b (Array.getElem?_eq_some_iff.1 hcur).1 hbn).trans hcur⟩, fun j hlt => ?_⟩
  obtain ⟨ua, uc, h1, h2, h3, h4⟩ := hj j hlt
  refine ⟨ua, uc, hF.cell h1 hbn, h2, hF.sees h3 (fun x n c e => ?_), fun x hx => ?_⟩
  · simp at e
    obtain ⟨h5, cu, h6⟩ := h4 x e.1
    intro hk
    rcases hn _ hk with h | h
    · omega
    · exact (h _ _ h6).2 rfl
  · obtain ⟨h5, cu, h6⟩ := h4 x hx
    refine ⟨h5, cu, (hF.2.2 _ (Array.getElem?_eq_some_iff.1 h6).1 (fun hk => ?_)).trans h6⟩
    rcases hn _ hk with h | h
    · omega
    · exact (h _ _ h6).2 rfl
theorem Cls.below {w w' : World} {base : Nat} {v : Value} {LL : List (List Nat)} (h : Cls w base v LL) (hb : Below w.heap.size w w') : Cls w' base v LL := h.fr (Fr.of_below (fs := []) hb) (by simp)
theorem Cls.base {w : World} {base base' : Nat} {v : Value} {LL : List (List Nat)} (h : Cls w base v LL) (hb : base' ≤ base) : Cls w base' v LL := by
  obtain ⟨⟨a, cap, rfl, hcap, hc⟩, hm⟩ := h
  refine ⟨⟨a, cap, rfl, hcap, fun h1 => ?_⟩, hm⟩
  obtain ⟨b, o, rfl, hb, hcur, hj⟩ := hc h1
  refine ⟨b, o, rfl, by omega, hcur, fun j hlt => ?_⟩
  obtain ⟨ua, uc, h1, h2, h3, h4⟩ := hj j hlt
  exact ⟨ua, uc, h1, h2, h3, fun x hx => ⟨by have := (h4 x hx).1; omega, (h4 x hx).2⟩⟩
theorem Cls.cells {w : World} {base : Nat} {v : Value} {LL : List (List Nat)} (h : Cls w base v LL) : Cells w v LL := by
  obtain ⟨⟨a, cap, rfl, hcap, hc⟩, hm, _⟩ := h
  refine ⟨⟨a, cap, rfl, fun h1 => ?_⟩, by omega⟩
  obtain ⟨b, o, rfl, _, _, hj⟩ := hc h1
  refine ⟨b, o, rfl, fun j hlt => ?_⟩
  obtain ⟨ua, uc, h1, h2, h3, _⟩ := hj j hlt
  exact ⟨_, h1, h3⟩
theorem Cls.nil (w : World) (base : Nat) : Cls w base (.slice none 0 0) [] := ⟨⟨none, 0, rfl, Nat.le_refl _, fun h => absurd h (by simp)⟩, by simp, by simp, by simp⟩
theorem Cls.slice {w : World} {base : Nat} {v : Value} {LL : List (List Nat)} (h : Cls w base v LL) : ∃ a c, v = .slice a LL.length c ∧ LL.length ≤ c := by
  obtain ⟨⟨a, c, h, hc, _⟩, _⟩ := h
  exact ⟨a, c, h, hc⟩
theorem getD_cell (L : List (List Nat)) {i : Nat} (h : i < L.length) : L.getD i [] ∈ L := by simp [List.getD_eq_getElem?_getD, h]
theorem owns_slice {w : World} {base : Nat} {e : TypeId} {v : Value} {n : Nat} {xs : List Value} (h : w.ownsRow base e 1 v n xs) : ∃ a c, v = .slice a n c ∧ n ≤ c := by
  rcases h.2 with ⟨rfl, rfl⟩ | ⟨g, cap, cur, rfl, _, _, hn, _⟩
  · exact ⟨none, 0, rfl, Nat.le_refl _⟩
  · exact ⟨_, cap, rfl, hn⟩
theorem owns_typed {w : World} {base : Nat} {e : TypeId} {a : Option Addr} {n c : Nat} {xs : List Value} (h : w.ownsRow base e 1 (.slice a n c) n xs) : ∀ x, a = some x → base ≤ x.block ∧ ∃ cur, w.heap[x.block]? = some (.cells cur e (0, 0)) := by
  rintro x rfl
  rcases h.2 with ⟨h0, _⟩ | ⟨g, cap, cur, hv, hb, hg, _⟩
  · cases h0
  · simp at hv
    obtain ⟨rfl, _⟩ := hv
    exact ⟨hb, cur, hg⟩
theorem Rows'.cls {w : World} {base : Nat} {v : Value} {LL : List (List Nat)} (h : Rows' w base v LL) (hx : ∀ c ∈ LL, ∀ x ∈ c, x < 256) : Cls w base v LL := by
  obtain ⟨us, hl, ho, hc, hn, hm⟩ := h
  refine ⟨?_, hm, hn, hx⟩
  rcases ho.2 with ⟨rfl, h0⟩ | ⟨g, cap, cur, rfl, hbg, hgc, hcap, _⟩
  · obtain rfl := List.eq_nil_of_length_eq_zero h0
    exact (Cls.nil w base).1
  · refine ⟨some ⟨g, 0, none⟩, cap, rfl, hcap, fun _ => ⟨g, 0, rfl, hbg, ⟨cur, hgc⟩, fun j hj => ?_⟩⟩
    obtain ⟨u, h1, h2⟩ := hc j hj
    have k1 := ho.cells (g := g) rfl _ _ h1
    rw [Addr.add_lit] at k1
    obtain ⟨ua, uc, rfl, hu⟩ := owns_slice h2
    exact ⟨ua, uc, k1, hu, owns_sees' h2 (by have := hn _ (getD_memL LL hj); omega), owns_typed h2⟩

set_option maxRecDepth 100000 in
set_option maxHeartbeats 400000 in
theorem tnum_any (v : Value) (l : List Nat) (w : World) (hv : Sees w v l) (hl : ∀ x ∈ l, x < 256) (h8 : l.length ≤ 8) :
    Calls Tryz.prog 95 #[v] w fun e w' => e = .returned (.int .u64 (M.nv 0 l : Nat)) ∧ w' = w := by
  obtain ⟨⟨a, ca, rfl, ha⟩, hma⟩ := hv
  have HL := Hid.mk' hl
  clear hma hl
  go_enter Tryz.func95, Tryz.ntmps95
  go_wp2
  go_loopw [3, 8] (fun t i wr => ∃ k : Nat, k ≤ l.length ∧ i = .int .i64 k ∧ t = .int .u64 (M.nv 0 (l.take k) : Nat) ∧ wr = w) (fun _ i _ => l.length - (intOf i).toNat)
  case atStart => exact ⟨0, by omega, rfl, rfl, rfl⟩
  case round =>
    obtain ⟨k, hk, rfl, rfl, rfl⟩ := hrel
    by_cases hlt : k < l.length
    · obtain ⟨b, o, rfl, hc⟩ := ha (by omega)
      have c1 := hc k hlt
      have hm : M.nv 0 (l.take k) < 72057594037927936 := by
        refine Nat.lt_of_lt_of_le (M.nv_lt (l.take k) 0 (fun x hx => HL.out x (List.mem_of_mem_take hx))) ?_
        rw [List.length_take, Nat.min_eq_left hk, Nat.zero_add, Nat.one_mul]
        exact Nat.le_trans (Nat.pow_le_pow_right (by decide) (show k ≤ 7 by omega)) (by decide)
      have hx : l.getD k 0 < 256 := by
        rw [List.getD_eq_getElem?_getD, List.getElem?_eq_getElem hlt]
        exact HL.out _ (List.getElem_mem hlt)
      have HS : Hid (M.nv 0 (l.take (k + 1)) = M.nv 0 (l.take k) * 256 + l.getD k 0) := by
        show _ = _
        rw [List.take_succ_eq_append_getElem hlt, M.nv_snoc]
        simp [List.getD_eq_getElem?_getD, hlt]
      clear hc ha
      generalize l.getD k 0 = x at *
      generalize M.nv 0 (l.take k) = m at *
      go_wp2
      go_roundw
      case rel =>
        refine ⟨k + 1, by omega, by go_num, ?_, by trivial⟩
        rw [HS.out, or9 (m : Int) x (by omega) (by omega) hx]
        congr 1
      case measure => simp [intOf]; omega
    · have e : k = l.length := by omega
      have HE : Hid (M.nv 0 (l.take k) = M.nv 0 l) := by show _ = _; rw [e, List.take_of_length_le (Nat.le_refl _)]
      clear e ha
      generalize M.nv 0 (l.take k) = m at *
      go_wp2
      go_ret
      exact ⟨by rw [HE.out]; rfl, rfl⟩

set_option maxRecDepth 100000 in
set_option maxHeartbeats 400000 in
theorem keyof_any (a : Option Addr) (n ca : Nat) (c : List Nat) (w : World) (hv : Sees w (.slice a n ca) c) (hl : ∀ x ∈ c, x < 256) (h8 : 8 ≤ c.length) (hr : n ≤ ca) :
    Calls Tryz.prog 92 #[.slice a n ca] w fun e w' => e = .returned (.int .i64 (T.key c)) ∧ w' = w := by
  have hs := hv.take 8 h8
  have HN := Hid.mk' (tnum_any _ _ w hs (fun x hx => hl x (List.mem_of_mem_take hx)) (by rw [List.length_take]; omega))
  have hn : n = c.length := by obtain ⟨⟨_, _, h, _⟩, _⟩ := hv; simp at h; exact h.2.1
  have h1 : (8 : Int) ≤ (ca : Int) := by omega
  have h2 : ¬ ca = 0 := by omega
  have HK : Hid (wrap64 ((M.nv 0 (c.take 8) : Nat) : Int) = T.key c) := by show _ = _; unfold wrap64 T.key; exact (IntKind.wrap_i64 _).symm
  clear hv hs hl h8 hr hn
  go_enter Tryz.func92, Tryz.ntmps92
  go_wp2_with fail
  refine HN.out.mono ?_
  rintro e w1 ⟨rfl, hw⟩
  obtain rfl := hw.symm
  clear hw HN
  go_wp2
  go_ret
  exact ⟨by rw [← HK.out]; rfl, rfl⟩

set_option maxRecDepth 100000 in
set_option maxHeartbeats 400000 in
theorem tlen_any (a : Option Addr) (n ca : Nat) (c : List Nat) (w : World) (hv : Sees w (.slice a n ca) c) (hl : ∀ x ∈ c, x < 256) (h10 : 10 ≤ c.length) (hr : n ≤ ca) :
    Calls Tryz.prog 94 #[.slice a n ca] w fun e w' => e = .returned (.int .i64 (T.len c : Nat)) ∧ w' = w := by
  have hn : n = c.length := by obtain ⟨⟨_, _, h, _⟩, _⟩ := hv; simp at h; exact h.2.1
  obtain ⟨b, o, rfl⟩ : ∃ b o, a = some ⟨b, o, none⟩ := by obtain ⟨⟨_, _, h, hc⟩, _⟩ := hv; simp at h; obtain ⟨b, o, e, _⟩ := hc (by omega); exact ⟨b, o, by rw [h.1, e]⟩
  have HN := Hid.mk' (tnum_any _ _ w (hv.sub 8 2 (ca - 8) (by omega)) (fun x hx => hl x (List.mem_of_mem_drop (List.mem_of_mem_take hx))) (by rw [List.length_take]; omega))
  have h1 : (10 : Int) ≤ (ca : Int) := by omega
  have h2 : ¬ ca = 8 := by omega
  have HK : Hid (M.nv 0 ((c.drop 8).take 2) = T.len c) := rfl
  have hlt : M.nv 0 ((c.drop 8).take 2) < 65536 := by
    refine Nat.lt_of_lt_of_le (M.nv_lt _ 0 (fun x hx => hl x (List.mem_of_mem_drop (List.mem_of_mem_take hx)))) ?_
    rw [List.length_take, List.length_drop, Nat.min_eq_left (by omega)]
    decide
  clear hv hl h10 hr hn
  generalize M.nv 0 ((c.drop 8).take 2) = m at *
  go_enter Tryz.func94, Tryz.ntmps94
  go_wp2_with fail
  refine HN.out.mono ?_
  rintro e w1 ⟨rfl, hw⟩
  obtain rfl := hw.symm
  clear hw HN
  go_wp2
  go_ret
  exact ⟨by rw [← HK.out]; rfl, rfl⟩

set_option maxRecDepth 100000 in
set_option maxHeartbeats 400000 in
theorem isrec_any (a : Option Addr) (n ca : Nat) (c : List Nat) (w : World) (hv : Sees w (.slice a n ca) c) (hl : ∀ x ∈ c, x < 256) (hr : n ≤ ca) (hk : T.isRec c = true) :
    Calls Tryz.prog 175 #[.slice a n ca] w fun e w' => e = .returned (.bool true) ∧ w' = w := by
  have hn : n = c.length := by obtain ⟨⟨_, _, h, _⟩, _⟩ := hv; simp at h; exact h.2.1
  unfold T.isRec at hk
  simp only [Bool.and_eq_true, decide_eq_true_eq] at hk
  obtain ⟨h10, hk⟩ := hk
  have HN := Hid.mk' (tlen_any a n ca c w hv hl h10 hr)
  have hlen : n ≤ 9223372036854775807 := by obtain ⟨_, h⟩ := hv; omega
  have hn10 : 10 ≤ n := by omega
  by_cases hs : T.len c ≤ 113
  · rw [if_pos hs] at hk
    have he : ((n : Int) == 10 + (T.len c : Int)) = true := by simp at hk ⊢; omega
    clear hv hl h10 hr hn hk
    generalize T.len c = m at *
    go_enter Tryz.func175, Tryz.ntmps175
    go_wp2_with fail
    refine HN.out.mono ?_
    rintro e w1 ⟨rfl, hw⟩
    obtain rfl := hw.symm
    clear hw HN
    go_wp2
    go_ret
    exact ⟨rfl, rfl⟩
  · rw [if_neg hs] at hk
    simp only [Bool.and_eq_true, decide_eq_true_eq] at hk
    obtain ⟨hm, h12⟩ := hk
    have he : n = 12 := by omega
    subst he
    clear hv hl h10 hr hn h12
    generalize T.len c = m at *
    go_enter Tryz.func175, Tryz.ntmps175
    go_wp2_with fail
    refine HN.out.mono ?_
    rintro e w1 ⟨rfl, hw⟩
    obtain rfl := hw.symm
    clear hw HN
    go_wp2
    go_ret
    exact ⟨rfl, rfl⟩

set_option maxRecDepth 100000 in
theorem formed1_any (a : Option Addr) (n ca : Nat) (c : List Nat) (w : World) (hv : Sees w (.slice a n ca) c) (hl : ∀ x ∈ c, x < 256) (hr : n ≤ ca) (hk : T.isRec c = true) :
    Calls Tryz.prog 174 #[.slice a n ca] w fun e w' => e = .returned (.bool false) ∧ w' = w := by
  have HN := Hid.mk' (isrec_any a n ca c w hv hl hr hk)
  clear hv hl hr hk
  go_enter Tryz.func174, Tryz.ntmps174
  go_wp2_with fail
  refine HN.out.mono ?_
  rintro e w1 ⟨rfl, hw⟩
  obtain rfl := hw.symm
  clear hw HN
  go_wp2
  go_ret
  exact ⟨rfl, rfl⟩

set_option maxRecDepth 100000 in
theorem formed2_any (a : Option Addr) (ca : Nat) (w : World) :
    Calls Tryz.prog 176 #[.slice a 10 ca] w fun e w' => e = .returned (.bool false) ∧ w' = w := by
  go_enter Tryz.func176, Tryz.ntmps176
  go_wp2
  go_ret
  exact ⟨rfl, rfl⟩
end Go.Proofs.YtojkbhkjnhhkoaaGreat.Nod
namespace Go.Proofs.YtojkbhkjnhhkoaaGreat.Nod
open Go.RowKit

set_option maxRecDepth 100000 in
set_option maxHeartbeats 400000 in
theorem index1_none (v : Value) (LL : List (List Nat)) (w : World) {bs : Nat} (hv : Cls w bs v LL) (hk : ∀ c ∈ LL, T.isRec c = true) :
    Calls Tryz.prog 203 #[v, .func (.func 174) #[] #[]] w fun e w' => e = .returned (.int .i64 (-1)) ∧ w' = w := by
  obtain ⟨⟨a, cap, rfl, hcap, hc⟩, hm, _, hx⟩ := hv
  have HC := Hid.mk' hc
  have HK := Hid.mk' hk
  have HX := Hid.mk' hx
  clear hc hk hx
  go_enter Tryz.func203, Tryz.ntmps203
  go_wp2
  go_loopw [8] (fun i wr => ∃ k : Nat, k ≤ LL.length ∧ i = .int .i64 k ∧ wr = w) (fun i _ => LL.length - (intOf i).toNat)
  case atStart => exact ⟨0, by omega, rfl, rfl⟩
  case round =>
    obtain ⟨k, hk, rfl, hw⟩ := hrel
    obtain rfl := hw.symm
    clear hw
    by_cases hlt : k < LL.length
    · obtain ⟨b, o, rfl, _, _, hj⟩ := HC.out (by omega)
      obtain ⟨ua, uc, c1, c2, c3, _⟩ := hj k hlt
      have HF := Hid.mk' (formed1_any ua _ uc _ w c3 (HX.out _ (getD_cell LL hlt)) c2 (HK.out _ (getD_cell LL hlt)))
      generalize (LL.getD k []).length = n at *
      clear hj c3
      go_wp2_with fail
      refine HF.out.mono ?_
      rintro e w1 ⟨rfl, hw⟩
      obtain rfl := hw.symm
      clear hw HF c1
      go_wp2
      go_roundw
      case rel => exact ⟨k + 1, by omega, by go_num, by first | rfl | trivial⟩
      case measure => simp [intOf]; omega
    · go_wp2
      go_ret
      exact ⟨rfl, rfl⟩

set_option maxRecDepth 100000 in
set_option maxHeartbeats 400000 in
theorem index2_none (v : Value) (LL : List (List Nat)) (w : World) {bs : Nat} (hv : Cls w bs v LL) (hk : ∀ c ∈ LL, c.length = 10) :
    Calls Tryz.prog 203 #[v, .func (.func 176) #[] #[]] w fun e w' => e = .returned (.int .i64 (-1)) ∧ w' = w := by
  obtain ⟨⟨a, cap, rfl, hcap, hc⟩, hm, _, hx⟩ := hv
  have HC := Hid.mk' hc
  have HK := Hid.mk' hk
  clear hc hk hx
  go_enter Tryz.func203, Tryz.ntmps203
  go_wp2
  go_loopw [8] (fun i wr => ∃ k : Nat, k ≤ LL.length ∧ i = .int .i64 k ∧ wr = w) (fun i _ => LL.length - (intOf i).toNat)
  case atStart => exact ⟨0, by omega, rfl, rfl⟩
  case round =>
    obtain ⟨k, hk, rfl, hw⟩ := hrel
    obtain rfl := hw.symm
    clear hw
    by_cases hlt : k < LL.length
    · obtain ⟨b, o, rfl, _, _, hj⟩ := HC.out (by omega)
      obtain ⟨ua, uc, c1, c2, c3, _⟩ := hj k hlt
      rw [HK.out _ (getD_cell LL hlt)] at c1
      have HF := Hid.mk' (formed2_any ua uc w)
      clear hj c3 c2
      go_wp2_with fail
      refine HF.out.mono ?_
      rintro e w1 ⟨rfl, hw⟩
      obtain rfl := hw.symm
      clear hw HF c1
      go_wp2
      go_roundw
      case rel => exact ⟨k + 1, by omega, by go_num, by first | rfl | trivial⟩
      case measure => simp [intOf]; omega
    · go_wp2
      go_ret
      exact ⟨rfl, rfl⟩

set_option maxRecDepth 100000 in
theorem contains1_none (v : Value) (LL : List (List Nat)) (w : World) {bs : Nat} (hv : Cls w bs v LL) (hk : ∀ c ∈ LL, T.isRec c = true) :
    Calls Tryz.prog 173 #[v, .func (.func 174) #[] #[]] w fun e w' => e = .returned (.bool false) ∧ w' = w := by
  have HN := Hid.mk' (index1_none v LL w hv hk)
  clear hv hk
  go_enter Tryz.func173, Tryz.ntmps173
  go_wp2_with fail
  refine HN.out.mono ?_
  rintro e w1 ⟨rfl, hw⟩
  obtain rfl := hw.symm
  clear hw HN
  go_wp2
  go_ret
  exact ⟨rfl, rfl⟩

set_option maxRecDepth 100000 in
theorem contains2_none (v : Value) (LL : List (List Nat)) (w : World) {bs : Nat} (hv : Cls w bs v LL) (hk : ∀ c ∈ LL, c.length = 10) :
    Calls Tryz.prog 173 #[v, .func (.func 176) #[] #[]] w fun e w' => e = .returned (.bool false) ∧ w' = w := by
  have HN := Hid.mk' (index2_none v LL w hv hk)
  clear hv hk
  go_enter Tryz.func173, Tryz.ntmps173
  go_wp2_with fail
  refine HN.out.mono ?_
  rintro e w1 ⟨rfl, hw⟩
  obtain rfl := hw.symm
  clear hw HN
  go_wp2
  go_ret
  exact ⟨rfl, rfl⟩

/-- Cells of a knot of that kind: 1 a leaf's, 2 a fork's. -/
def KnotC (kd : Nat) (LL : List (List Nat)) : Prop := (kd = 1 ∧ ∀ c ∈ LL, T.isRec c = true) ∨ (kd = 2 ∧ 1 < LL.length ∧ ∀ c ∈ LL, c.length = 10)
theorem KnotC.eight {kd : Nat} {LL : List (List Nat)} (h : KnotC kd LL) : ∀ c ∈ LL, 8 ≤ c.length := by
  intro c hc
  rcases h with ⟨_, h⟩ | ⟨_, _, h⟩
  · have := h c hc
    unfold T.isRec at this
    simp at this
    omega
  · have := h c hc
    omega
theorem block_new (w : World) (cs : Array Value) (t : TypeId) : (w.alloc (.cells cs t)).heap[w.heap.size]? = some (.cells cs t (0, 0)) := heap_alloc_new w _

set_option maxRecDepth 100000 in
set_option maxHeartbeats 400000 in
theorem formed_any (at_ : Int) (kd : Nat) (v : Value) (LL : List (List Nat)) (w : World) {bs : Nat} (hv : Cls w bs v LL) (hk : KnotC kd LL) :
    Calls Tryz.prog 142 #[.agg #[.int .i64 at_, .int .i64 kd, v]] w fun e w' => e = .returned (.bool true) ∧ Below w.heap.size w w' := by
  have hb : Below w.heap.size w (w.alloc (.cells #[.int .i64 at_, .int .i64 kd, v] 102)) := (Below.refl _ _).alloc (Nat.le_refl _) _
  obtain ⟨va, vc, hvv, _⟩ := hv.slice
  rcases hk with ⟨rfl, hk⟩ | ⟨rfl, h1, hk⟩
  · have HN := Hid.mk' (contains1_none v LL _ (hv.below hb) hk)
    subst hvv
    clear hv hk
    go_enter Tryz.func142, Tryz.ntmps142
    go_wp2_with fail
    refine HN.out.mono ?_
    rintro e w1 ⟨rfl, hw⟩
    have HB : Hid (Below w.heap.size w w1) := by show Below _ _ _; rw [hw]; exact hb
    clear hw HN hb
    go_wp2
    go_ret
    exact ⟨rfl, HB.out⟩
  · have HN := Hid.mk' (contains2_none v LL _ (hv.below hb) hk)
    subst hvv
    clear hv hk
    have ht : decide ((1 : Int) < (LL.length : Int)) = true := by rw [decide_eq_true_iff]; omega
    go_enter Tryz.func142, Tryz.ntmps142
    go_wp2_with fail
    refine HN.out.mono ?_
    rintro e w1 ⟨rfl, hw⟩
    have HB : Hid (Below w.heap.size w w1) := by show Below _ _ _; rw [hw]; exact hb
    clear hw HN hb
    go_wp2
    go_ret
    exact ⟨rfl, HB.out⟩

set_option maxRecDepth 100000 in
set_option maxHeartbeats 400000 in
theorem tkey_any (at_ kd : Int) (v : Value) (LL : List (List Nat)) (w : World) {bs : Nat} (hv : Cls w bs v LL) (h8 : ∀ c ∈ LL, 8 ≤ c.length) (i : Nat) (hi : i < LL.length) :
    Calls Tryz.prog 54 #[.agg #[.int .i64 at_, .int .i64 kd, v], .int .i64 i] w fun e w' => e = .returned (.int .i64 (T.key (LL.getD i []))) ∧ Below w.heap.size w w' := by
  have hb : Below w.heap.size w (w.alloc (.cells #[.int .i64 at_, .int .i64 kd, v] 102)) := (Below.refl _ _).alloc (Nat.le_refl _) _
  obtain ⟨⟨a, cap, rfl, hcap, hc⟩, hm, _, hx⟩ := hv
  obtain ⟨b, o, rfl, _, _, hj⟩ := hc (by omega)
  obtain ⟨ua, uc, c1, c2, c3, _⟩ := hj i hi
  have HN := Hid.mk' (keyof_any ua _ uc _ _ (c3.below hb) (hx _ (getD_cell LL hi)) (h8 _ (getD_cell LL hi)) c2)
  have hbl : b < w.heap.size := World.block_lt_of_cell? _ _ c1
  generalize T.key (LL.getD i []) = kk at *
  generalize (LL.getD i []).length = n at *
  clear hc hj c3 hx h8
  go_enter Tryz.func54, Tryz.ntmps54
  go_wp2_with fail
  refine HN.out.mono ?_
  rintro e w1 ⟨rfl, hw⟩
  have HB : Hid (Below w.heap.size w w1) := by show Below _ _ _; rw [hw]; exact hb
  clear hw HN hb
  go_wp2
  go_ret
  exact ⟨rfl, HB.out⟩
end Go.Proofs.YtojkbhkjnhhkoaaGreat.Nod
namespace Go.Proofs.YtojkbhkjnhhkoaaGreat.Nod
open Go.RowKit

def Kc (bb : Nat) (at_ kd : Int) (a : Option Addr) (n cap : Nat) (w : World) : Prop := w.cell? ⟨bb, 0, none⟩ = some (.int .i64 at_) ∧ w.cell? ⟨bb, 1, none⟩ = some (.int .i64 kd) ∧ w.cell? ⟨bb, 2, none⟩ = some (.slice a n cap)
theorem Kc.on {bb : Nat} {at_ kd : Int} {a : Option Addr} {n cap : Nat} {w w' : World} (h : Kc bb at_ kd a n cap w) (hb : Below w.heap.size w w') : Kc bb at_ kd a n cap w' := ⟨cell_on hb h.1, cell_on hb h.2.1, cell_on hb h.2.2⟩

set_option maxRecDepth 100000 in
set_option maxHeartbeats 1000000 in
theorem rises_any (at_ kd : Int) (v : Value) (LL : List (List Nat)) (w : World) {bs : Nat} (hv : Cls w bs v LL) (h8 : ∀ c ∈ LL, 8 ≤ c.length) (hr : T.riseK LL) :
    Calls Tryz.prog 143 #[.agg #[.int .i64 at_, .int .i64 kd, v]] w fun e w' => e = .returned (.bool true) ∧ Below w.heap.size w w' := by
  obtain ⟨a, cap, rfl, hcap⟩ := hv.slice
  have hlen : LL.length ≤ 1000000 := hv.2.1
  obtain ⟨w1, hw1⟩ : ∃ w1, w1 = w.alloc (.cells #[.int .i64 at_, .int .i64 kd, .slice a LL.length cap] 102) := ⟨_, rfl⟩
  obtain ⟨bb, hbb⟩ : ∃ bb, bb = w.heap.size := ⟨_, rfl⟩
  have HB1 : Hid (Below w.heap.size w w1) := by show Below _ _ _; rw [hw1]; exact (Below.refl _ _).alloc (Nat.le_refl _) _
  have HK : Hid (Kc bb at_ kd a LL.length cap w1) := by show Kc _ _ _ _ _ _ _; rw [hw1, hbb]; exact ⟨by simp, by simp, by simp⟩
  have HC := Hid.mk' (fun (wx : World) (hb : Below w1.heap.size w1 wx) (i : Nat) (hi : i < LL.length) => tkey_any at_ kd _ LL wx ((hv.below HB1.out).below hb) h8 i hi)
  have HR := Hid.mk' hr
  clear hv h8 hr hcap
  go_enter Tryz.func143, Tryz.ntmps143
  go_upto_region 1 with fail
  rw [← hw1, ← hbb]
  clear hw1 hbb
  go_wp2
  go_loopw [3] (fun i wr => ∃ k m : Nat, k = m + 1 ∧ i = .int .i64 k ∧ Below w1.heap.size w1 wr) (fun i _ => LL.length - (intOf i).toNat)
  case atStart => exact ⟨1, 0, rfl, rfl, Below.refl _ _⟩
  case round =>
    obtain ⟨k, m, hk, rfl, hb⟩ := hrel
    have HB := Hid.mk' hb
    have HKr := Hid.mk' (HK.out.on hb)
    obtain ⟨x0, x1, x2⟩ := HKr.out
    by_cases hlt : k < LL.length
    · have e1 : (k : Int) - 1 = (m : Int) := by omega
      have e2 : IntKind.i64.wrap (m : Int) = m := i64_wrap _ (by omega) (by omega)
      have HA := Hid.mk' (HC.out wr.drew (Below.drew HB.out) m (by omega))
      have HE := Hid.mk' (fun (wx : World) (hb : Below w1.heap.size w1 wx) => HC.out wx hb k hlt)
      have HL := Hid.mk' (T.riseK_lt HR.out (i := m) (j := k) (by omega) hlt)
      generalize T.key (LL.getD m []) = ka at *
      generalize T.key (LL.getD k []) = kb at *
      have HKk := Hid.mk' hk
      clear hb hk
      have hS := Hid.mk' (show (fun w' : World => w'.cell? ⟨bb, 0, none⟩ = some (.int .i64 at_) ∧ w'.cell? ⟨bb, 1, none⟩ = some (.int .i64 kd) ∧ w'.cell? ⟨bb, 2, none⟩ = some (.slice a LL.length cap)) wr from ⟨x0, x1, x2⟩)
      have fresh : True := trivial
      go_wp2_with fail
      go_region_held3 (fun w' : World => w'.cell? ⟨bb, 0, none⟩ = some (.int .i64 at_) ∧ w'.cell? ⟨bb, 1, none⟩ = some (.int .i64 kd) ∧ w'.cell? ⟨bb, 2, none⟩ = some (.slice a LL.length cap)) (first | exact hS.out | assumption | go_keep)
        (first | (clear fresh; go_at_call 54; refine HA.out.mono ?_; rintro e w4 ⟨rfl, hb4⟩; have HB4 := Hid.mk' (show Below w1.heap.size w1 w4 from (Below.drew HB.out).trans (hb4.mono HB.out.size)); have hS := Hid.mk' (show (fun w' : World => w'.cell? ⟨bb, 0, none⟩ = some (.int .i64 at_) ∧ w'.cell? ⟨bb, 1, none⟩ = some (.int .i64 kd) ∧ w'.cell? ⟨bb, 2, none⟩ = some (.slice a LL.length cap)) w4 from HK.out.on HB4.out); clear hb4) | (go_at_call 54; refine (HE.out w4 HB4.out).mono ?_; rintro e w5 ⟨rfl, hb5⟩; have HB5 := Hid.mk' (show Below w1.heap.size w1 w5 from HB4.out.trans (hb5.mono HB4.out.size)); have hS := Hid.mk' (show (fun w' : World => w'.cell? ⟨bb, 0, none⟩ = some (.int .i64 at_) ∧ w'.cell? ⟨bb, 1, none⟩ = some (.int .i64 kd) ∧ w'.cell? ⟨bb, 2, none⟩ = some (.slice a LL.length cap)) w5 from HK.out.on HB5.out); clear hb5))
      have hlt2 := HL.out
      clear x0 x1 x2 e1 e2
      go_wp2
      go_roundw
      case rel => exact ⟨k + 1, k, rfl, by go_num, HB5.out⟩
      case measure => simp [intOf]; omega
    · clear hk
      go_wp2
      go_ret
      exact ⟨rfl, HB1.out.trans (HB.out.mono HB1.out.size)⟩
end Go.Proofs.YtojkbhkjnhhkoaaGreat.Nod
namespace Go.Proofs.YtojkbhkjnhhkoaaGreat.Nod
open Go.RowKit

/-- Where a key stands among cells, or would. -/
def PosK (LL : List (List Nat)) (t : Int) (i : Nat) : Prop := i ≤ LL.length ∧ (∀ d, d < i → T.key (LL.getD d []) < t) ∧ ∀ d, i ≤ d → d < LL.length → t ≤ T.key (LL.getD d [])
def thereK (LL : List (List Nat)) (t : Int) (i : Nat) : Bool := decide (i < LL.length) && decide (T.key (LL.getD i []) = t)
def cmpN (x y : Int) : Int := if x < y then -1 else if y < x then 1 else 0
theorem cmpN_lt (x y : Int) : (cmpN x y < 0) = (x < y) := by
  unfold cmpN
  split
  · simp_all
  · split <;> simp_all
theorem cmpN_eq (x y : Int) : (cmpN x y == 0) = decide (x = y) := by
  unfold cmpN
  split
  · rename_i h
    rw [decide_eq_false (by omega)]
    rfl
  · split
    · rename_i h1 h2
      rw [decide_eq_false (by omega)]
      rfl
    · rename_i h1 h2
      rw [decide_eq_true (by omega)]
      rfl

theorem isnan_long (x : Int) (w : World) : Calls Tryz.prog 147 #[.int .i64 x] w fun e w' => e = .returned (.bool false) ∧ w' = w := by
  go_enter Tryz.func147, Tryz.ntmps147
  go_wp2
  go_ret
  simp

theorem compare_long (x y : Int) (w : World) : Calls Tryz.prog 91 #[.int .i64 x, .int .i64 y] w fun e w' => e = .returned (.int .i64 (cmpN x y)) ∧ w' = w := by
  go_enter Tryz.func91, Tryz.ntmps91
  go_wp2_with (go_at_call 147; refine (isnan_long _ _).mono ?_; rintro e w' ⟨rfl, rfl⟩)
  all_goals
    go_ret
    simp_all [cmpN]
    try omega

set_option maxRecDepth 100000 in
theorem find1_any (a : Option Addr) (n ca : Nat) (c : List Nat) (t : Int) (w : World) (hv : Sees w (.slice a n ca) c) (hl : ∀ x ∈ c, x < 256) (h8 : 8 ≤ c.length) (hr : n ≤ ca) :
    Calls Tryz.prog 90 #[.slice a n ca, .int .i64 t] w fun e w' => e = .returned (.int .i64 (cmpN (T.key c) t)) ∧ w' = w := by
  have HN := Hid.mk' (keyof_any a n ca c w hv hl h8 hr)
  clear hv hl h8 hr
  go_enter Tryz.func90, Tryz.ntmps90
  go_wp2_with fail
  refine HN.out.mono ?_
  rintro e w1 ⟨rfl, hw⟩
  obtain rfl := hw.symm
  clear hw HN
  go_wp2_with fail
  refine (compare_long _ _ _).mono ?_
  rintro e w1 ⟨rfl, hw⟩
  obtain rfl := hw.symm
  clear hw
  go_wp2
  go_ret
  exact ⟨rfl, rfl⟩

set_option maxRecDepth 100000 in
set_option maxHeartbeats 1000000 in
theorem search_k {w : World} {bs : Nat} {v : Value} {LL : List (List Nat)} (hv : Cls w bs v LL) (h8 : ∀ c ∈ LL, 8 ≤ c.length) (hr : T.riseK LL) (t : Int) :
    Calls Tryz.prog 89 #[v, .int .i64 t, .func (.func 90) #[] #[]] w fun e w' => (∃ i : Nat, PosK LL t i ∧ e = .returned (.tuple #[.int .i64 (i : Int), .bool (thereK LL t i)])) ∧ w' = w := by
  obtain ⟨⟨a, cap, rfl, hcap, hc⟩, hm, _, hx⟩ := hv
  have HC := Hid.mk' hc
  have HR := Hid.mk' hr
  have H8 := Hid.mk' h8
  have HX := Hid.mk' hx
  clear hc hr h8 hx
  go_enter Tryz.func89, Tryz.ntmps89
  go_wp2
  go_loopw [9, 10] (fun i j wr => ∃ p q : Nat, p ≤ q ∧ q ≤ LL.length ∧ i = .int .i64 p ∧ j = .int .i64 q ∧ wr = w ∧ (∀ d, d < p → T.key (LL.getD d []) < t) ∧ (∀ d, q ≤ d → d < LL.length → t ≤ T.key (LL.getD d []))) (fun i j _ => (intOf j).toNat - (intOf i).toNat)
  case atStart => exact ⟨0, LL.length, by omega, by omega, rfl, rfl, rfl, fun d hd => by omega, fun d h1 h2 => by omega⟩
  case round =>
    obtain ⟨p, q, hpq, hq, rfl, rfl, hw, h1, h2⟩ := hrel
    obtain rfl := hw.symm
    have H1 := Hid.mk' h1
    have H2 := Hid.mk' h2
    clear h1 h2 hw
    by_cases hlt : p < q
    · have hml : (p + q) / 2 < LL.length := by omega
      obtain ⟨b, o, rfl, _, _, hj⟩ := HC.out (by omega)
      obtain ⟨ua, uc, c1, c2, c3, _⟩ := hj _ hml
      have HF := Hid.mk' (find1_any ua _ uc _ t w c3 (HX.out _ (getD_cell LL hml)) (H8.out _ (getD_cell LL hml)) c2)
      have HS : Hid (T.key (LL.getD ((p + q) / 2) []) = T.key (LL.getD ((p + q) / 2) [])) := rfl
      obtain ⟨s0, hs0⟩ : ∃ s0, T.key (LL.getD ((p + q) / 2) []) = s0 := ⟨_, rfl⟩
      obtain ⟨n, hn⟩ : ∃ n, (LL.getD ((p + q) / 2) []).length = n := ⟨_, rfl⟩
      rw [hs0, hn] at HF
      rw [hn] at c1
      replace HS := Hid.mk' hs0
      have hcm := cmpN_lt s0 t
      clear hj c3 c2 hn hs0
      by_cases hneg : s0 < t
      · have ht : decide (cmpN s0 t < 0) = true := by rw [decide_eq_true_iff, hcm]; omega
        clear hcm
        generalize cmpN s0 t = cm at *
        go_wp2_with fail
        refine HF.out.mono ?_
        rintro e w' ⟨rfl, hw⟩
        obtain rfl := hw.symm
        clear c1 HF hw
        go_wp2
        go_roundw
        case rel =>
          refine ⟨(p + q) / 2 + 1, q, by omega, hq, by go_num, rfl, by first | rfl | trivial, fun d hd => ?_, H2.out⟩
          by_cases hde : d = (p + q) / 2
          · rw [hde, HS.out]; exact hneg
          · have h3 := T.riseK_lt HR.out (i := d) (j := (p + q) / 2) (by omega) (by omega)
            rw [HS.out] at h3
            omega
        case measure => simp [intOf]; omega
      · have ht : decide (cmpN s0 t < 0) = false := by rw [decide_eq_false_iff_not, hcm]; omega
        clear hcm
        generalize cmpN s0 t = cm at *
        go_wp2_with fail
        refine HF.out.mono ?_
        rintro e w' ⟨rfl, hw⟩
        obtain rfl := hw.symm
        clear c1 HF hw
        go_wp2
        go_roundw
        case rel =>
          refine ⟨p, (p + q) / 2, by omega, by omega, rfl, by go_num, by first | rfl | trivial, H1.out, fun d h3 h4 => ?_⟩
          by_cases hde : d = (p + q) / 2
          · rw [hde, HS.out]; omega
          · have h5 := T.riseK_lt HR.out (i := (p + q) / 2) (j := d) (by omega) h4
            rw [HS.out] at h5
            omega
        case measure => simp [intOf]; omega
    · have e : q = p := by omega
      subst e
      by_cases hql : q < LL.length
      · obtain ⟨b, o, rfl, _, _, hj⟩ := HC.out (by omega)
        obtain ⟨ua, uc, c1, c2, c3, _⟩ := hj _ hql
        have HF := Hid.mk' (find1_any ua _ uc _ t w c3 (HX.out _ (getD_cell LL hql)) (H8.out _ (getD_cell LL hql)) c2)
        have HP : Hid (PosK LL t q) := ⟨hq, H1.out, H2.out⟩
        obtain ⟨s0, hs0⟩ : ∃ s0, T.key (LL.getD q []) = s0 := ⟨_, rfl⟩
        obtain ⟨n, hn⟩ : ∃ n, (LL.getD q []).length = n := ⟨_, rfl⟩
        rw [hs0, hn] at HF
        rw [hn] at c1
        have HT : Hid (thereK LL t q = (cmpN s0 t == 0)) := by show _ = _; unfold thereK; rw [hs0, decide_eq_true hql, Bool.true_and, cmpN_eq]
        clear hj c3 c2 hn hs0 H1 H2
        generalize cmpN s0 t = cm at *
        have hlq : decide ((q : Int) < (LL.length : Int)) = true := by rw [decide_eq_true_iff]; omega
        go_wp2_with fail
        refine HF.out.mono ?_
        rintro e w' ⟨rfl, hw⟩
        obtain rfl := hw.symm
        clear c1 HF hw
        go_wp2
        go_ret2
        exact ⟨⟨q, HP.out, by rw [HT.out]; rfl⟩, rfl⟩
      · have HP : Hid (PosK LL t q) := ⟨hq, H1.out, H2.out⟩
        have HT : Hid (thereK LL t q = false) := by show _ = _; unfold thereK; rw [decide_eq_false hql]; rfl
        have hlq : decide ((q : Int) < (LL.length : Int)) = false := by rw [decide_eq_false_iff_not]; omega
        go_wp2
        go_ret2
        exact ⟨⟨q, HP.out, by rw [HT.out]; rfl⟩, rfl⟩

set_option maxRecDepth 100000 in
set_option maxHeartbeats 400000 in
theorem find_any (at_ kd : Int) {w : World} {bs : Nat} {v : Value} {LL : List (List Nat)} (hv : Cls w bs v LL) (h8 : ∀ c ∈ LL, 8 ≤ c.length) (hr : T.riseK LL) (t : Int) :
    Calls Tryz.prog 51 #[.agg #[.int .i64 at_, .int .i64 kd, v], .int .i64 t] w fun e w' => (∃ i : Nat, PosK LL t i ∧ e = .returned (.tuple #[.int .i64 (i : Int), .bool (thereK LL t i)])) ∧ Below w.heap.size w w' := by
  have hb : Below w.heap.size w (w.alloc (.cells #[.int .i64 at_, .int .i64 kd, v] 102)) := (Below.refl _ _).alloc (Nat.le_refl _) _
  have HN := Hid.mk' (search_k (hv.below hb) h8 hr t)
  obtain ⟨va, vc, rfl, _⟩ := hv.slice
  clear hv h8 hr
  go_enter Tryz.func51, Tryz.ntmps51
  go_wp2_with fail
  refine HN.out.mono ?_
  rintro e w1 ⟨⟨i, hp, rfl⟩, hw⟩
  have HB : Hid (Below w.heap.size w w1) := by show Below _ _ _; rw [hw]; exact hb
  have HP := Hid.mk' hp
  clear hw HN hb hp
  go_wp2
  go_ret2
  exact ⟨⟨i, HP.out, rfl⟩, HB.out⟩
end Go.Proofs.YtojkbhkjnhhkoaaGreat.Nod
