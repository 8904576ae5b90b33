/-
  The mathematics of sums: words of four bytes, two words a step, modulo 2 to the 32nd; parts, noughts, a turned byte.
  The contracts of sum.word, sum.words and sum.Sum.
-/
import Derived.Test.YtchbheoapldkaaaGreatRows
import Derived.Test.YtchbheoapldkaaaGreatPz
namespace Go.Proofs.YtchbheoapldkaaaGreat.M8

theorem eq_of_getD (la lb : List Nat) (h : la.length = lb.length) (hk : ∀ j, j < lb.length → la.getD j 0 = lb.getD j 0) : la = lb := by
  apply List.ext_getElem h
  intro i h1 h2
  have := hk i h2
  simpa [List.getD_eq_getElem?_getD, h1, h2] using this

/-- The number of the k bytes from place i on, noughts where there is none, the highest first. -/
def wv (l : List Nat) (i : Nat) : Nat → Nat
  | 0 => 0
  | k + 1 => wv l i k * 256 + l.getD (i + k) 0
/-- The word from place i on. -/
def wd (l : List Nat) (i : Nat) : Nat := wv l i 4

theorem getD_lt {l : List Nat} (hl : ∀ x ∈ l, x < 256) (i : Nat) : l.getD i 0 < 256 := by
  by_cases h : i < l.length
  · rw [show l.getD i 0 = l[i] by simp [List.getD_eq_getElem?_getD, h]]
    exact hl _ (List.getElem_mem h)
  · rw [List.getD_eq_getElem?_getD, List.getElem?_eq_none (by omega)]
    decide

theorem wv_lt {l : List Nat} (hl : ∀ x ∈ l, x < 256) (i : Nat) : ∀ k, wv l i k < 256 ^ k
  | 0 => by simp [wv]
  | k + 1 => by
    have h := wv_lt hl i k
    have h2 := getD_lt hl (i + k)
    rw [wv, Nat.pow_succ]
    omega
theorem wv_small {l : List Nat} (hl : ∀ x ∈ l, x < 256) (i : Nat) {k : Nat} (hk : k ≤ 3) : wv l i k < 16777216 := by
  have h1 := wv_lt hl i k
  have h2 : 256 ^ k ≤ 256 ^ 3 := Nat.pow_le_pow_right (by omega) hk
  have h3 : (256 : Nat) ^ 3 = 16777216 := rfl
  omega
theorem wd_lt {l : List Nat} (hl : ∀ x ∈ l, x < 256) (i : Nat) : wd l i < 4294967296 := wv_lt hl i 4

theorem wv_congr {l m : List Nat} {i j : Nat} : ∀ k, (∀ d, d < k → l.getD (i + d) 0 = m.getD (j + d) 0) → wv l i k = wv m j k
  | 0, _ => rfl
  | k + 1, h => by
    rw [wv, wv, wv_congr k (fun d hd => h d (by omega)), h k (by omega)]
theorem wd_congr {l m : List Nat} {i j : Nat} (h : ∀ d, d < 4 → l.getD (i + d) 0 = m.getD (j + d) 0) : wd l i = wd m j := wv_congr 4 h

/-- A step: two words. -/
def step (l : List Nat) (i : Nat) (s : Nat × Nat) : Nat × Nat :=
  ((s.1 + wd l i + s.2) % 4294967296, (s.2 + wd l (i + 4) + (s.1 + wd l i + s.2) % 4294967296) % 4294967296)
/-- The first k steps. -/
def run (l : List Nat) (s : Nat × Nat) : Nat → Nat × Nat
  | 0 => s
  | k + 1 => step l (8 * k) (run l s k)
/-- How many steps bytes ask for. -/
def steps (l : List Nat) : Nat := (l.length + 7) / 8
/-- The sum. -/
def sum (a b : Nat) (l : List Nat) : Nat × Nat := run l (a, b) (steps l)

theorem step_congr {l m : List Nat} {i j : Nat} (h : ∀ d, d < 8 → l.getD (i + d) 0 = m.getD (j + d) 0) (s : Nat × Nat) : step l i s = step m j s := by
  have h1 : wd l i = wd m j := wd_congr fun d hd => h d (by omega)
  have h2 : wd l (i + 4) = wd m (j + 4) := wd_congr fun d hd => by
    rw [Nat.add_assoc, Nat.add_assoc]; exact h (4 + d) (by omega)
  unfold step
  rw [h1, h2]

theorem run_congr {l m : List Nat} (s : Nat × Nat) : ∀ k, (∀ d, d < 8 * k → l.getD d 0 = m.getD d 0) → run l s k = run m s k
  | 0, _ => rfl
  | k + 1, h => by
    rw [run, run, run_congr s k (fun d hd => h d (by omega))]
    exact step_congr (fun d hd => h _ (by omega)) _

theorem run_add (l m : List Nat) (s : Nat × Nat) (k : Nat) : ∀ j, (∀ d, d < 8 * j → m.getD d 0 = l.getD (8 * k + d) 0) → run m (run l s k) j = run l s (k + j)
  | 0, _ => rfl
  | j + 1, h => by
    rw [run, run_add l m s k j (fun d hd => h d (by omega)), ← Nat.add_assoc, run]
    refine step_congr (fun d hd => ?_) _
    rw [h _ (by omega)]
    congr 1
    omega

theorem getD_drop (l : List Nat) (k d : Nat) : (l.drop k).getD d 0 = l.getD (k + d) 0 := by
  simp [List.getD_eq_getElem?_getD, List.getElem?_drop]
theorem getD_take (l : List Nat) {k d : Nat} (h : d < k) : (l.take k).getD d 0 = l.getD d 0 := by
  simp [List.getD_eq_getElem?_getD, h]
theorem getD_past (l : List Nat) {d : Nat} (h : l.length ≤ d) : l.getD d 0 = 0 := by
  rw [List.getD_eq_getElem?_getD, List.getElem?_eq_none h]; rfl

/-- Of two parts, the first one a multiple of eight bytes. -/
theorem sum_parts (a b : Nat) (l : List Nat) (k : Nat) (hk : 8 * k ≤ l.length) : sum (sum a b (l.take (8 * k))).1 (sum a b (l.take (8 * k))).2 (l.drop (8 * k)) = sum a b l := by
  have hs : steps (l.take (8 * k)) = k := by unfold steps; rw [List.length_take]; omega
  have hd : steps l = k + steps (l.drop (8 * k)) := by unfold steps; rw [List.length_drop]; omega
  have e1 : sum a b (l.take (8 * k)) = run l (a, b) k := by
    unfold sum
    rw [hs]
    exact run_congr _ _ fun d hd => getD_take l hd
  have e2 : sum a b l = run l (a, b) (k + steps (l.drop (8 * k))) := by unfold sum; rw [hd]
  rw [e1, e2]
  show run _ (run l (a, b) k) _ = _
  exact run_add l _ (a, b) k _ fun d _ => getD_drop l _ d

/-- Noughts up to the next eight change nothing. -/
theorem sum_pad (a b : Nat) (l m : List Nat) (h : ∀ d, m.getD d 0 = l.getD d 0) (hs : steps m = steps l) : sum a b m = sum a b l := by
  unfold sum
  rw [hs]
  exact run_congr _ _ fun d _ => h d

theorem run_lt (l : List Nat) {s : Nat × Nat} (h1 : s.1 < 4294967296) (h2 : s.2 < 4294967296) : ∀ k, (run l s k).1 < 4294967296 ∧ (run l s k).2 < 4294967296
  | 0 => ⟨h1, h2⟩
  | k + 1 => by
    rw [run]
    exact ⟨Nat.mod_lt _ (by omega), Nat.mod_lt _ (by omega)⟩
theorem sum_lt {a b : Nat} (l : List Nat) (h1 : a < 4294967296) (h2 : b < 4294967296) : (sum a b l).1 < 4294967296 ∧ (sum a b l).2 < 4294967296 := run_lt l (s := (a, b)) h1 h2 _

/-- A step is turned back. -/
theorem step_inj {l : List Nat} {i : Nat} {s t : Nat × Nat} (hs : s.1 < 4294967296 ∧ s.2 < 4294967296) (ht : t.1 < 4294967296 ∧ t.2 < 4294967296) (h : step l i s = step l i t) : s = t := by
  obtain ⟨a, b⟩ := s
  obtain ⟨c, d⟩ := t
  unfold step at h
  simp only [Prod.mk.injEq] at h hs ht ⊢
  obtain ⟨h1, h2⟩ := h
  rw [h1] at h2
  generalize wd l (i + 4) + (c + wd l i + d) % 4294967296 = z at h2
  have e2 : b = d := by omega
  subst e2
  exact ⟨by omega, rfl⟩

theorem step_ne1 {l m : List Nat} {i : Nat} (s : Nat × Nat) (hl : wd l i < 4294967296) (hm : wd m i < 4294967296) (h : wd l i ≠ wd m i) : step l i s ≠ step m i s := by
  unfold step
  simp only [ne_eq, Prod.mk.injEq]
  rintro ⟨h1, _⟩
  omega
theorem step_ne2 {l m : List Nat} {i : Nat} (s : Nat × Nat) (hl : wd l (i + 4) < 4294967296) (hm : wd m (i + 4) < 4294967296) (h0 : wd l i = wd m i) (h : wd l (i + 4) ≠ wd m (i + 4)) : step l i s ≠ step m i s := by
  unfold step
  simp only [ne_eq, Prod.mk.injEq]
  rintro ⟨_, h2⟩
  rw [h0] at h2
  omega

theorem wv_ne {l m : List Nat} {i p : Nat} (hl : ∀ x ∈ l, x < 256) (hm : ∀ x ∈ m, x < 256) (hp : l.getD (i + p) 0 ≠ m.getD (i + p) 0) (ho : ∀ d, d ≠ p → l.getD (i + d) 0 = m.getD (i + d) 0) : ∀ k, p < k → wv l i k ≠ wv m i k
  | 0, h => by omega
  | k + 1, h => by
    rw [wv, wv]
    by_cases hk : p = k
    · subst hk
      have e : wv l i p = wv m i p := wv_congr p fun d hd => ho d (by omega)
      rw [e]
      omega
    · have hne := wv_ne hl hm hp ho k (by omega)
      have e := ho k (by omega)
      have h1 := getD_lt hl (i + k)
      rw [← e]
      omega

theorem run_ne {l m : List Nat} {p : Nat} (hl : ∀ x ∈ l, x < 256) (hm : ∀ x ∈ m, x < 256) (hp : l.getD p 0 ≠ m.getD p 0) (ho : ∀ d, d ≠ p → l.getD d 0 = m.getD d 0) {s : Nat × Nat} (h1 : s.1 < 4294967296) (h2 : s.2 < 4294967296) :
    ∀ k, p < 8 * k → run l s k ≠ run m s k
  | 0, h => by omega
  | k + 1, h => by
    rw [run, run]
    by_cases hk : p < 8 * k
    · have ih := run_ne hl hm hp ho h1 h2 k hk
      rw [step_congr (l := l) (m := m) (i := 8 * k) (j := 8 * k) (fun d _ => ho _ (by omega))]
      intro he
      exact ih (step_inj (run_lt l h1 h2 k) (run_lt m h1 h2 k) he)
    · have e : run l s k = run m s k := run_congr s k fun d hd => ho d (by omega)
      rw [e]
      by_cases hq : p < 8 * k + 4
      · exact step_ne1 _ (wd_lt hl _) (wd_lt hm _) (wv_ne (p := p - 8 * k) hl hm (by rw [show 8 * k + (p - 8 * k) = p by omega]; exact hp) (fun d hd => ho _ (by omega)) 4 (by omega))
      · refine step_ne2 _ (wd_lt hl _) (wd_lt hm _) (wd_congr fun d hd => ho _ (by omega)) (wv_ne (p := p - (8 * k + 4)) hl hm (by rw [show 8 * k + 4 + (p - (8 * k + 4)) = p by omega]; exact hp) (fun d hd => ho _ (by omega)) 4 (by omega))

/-- One turned byte changes a sum. -/
theorem sum_turned (a b : Nat) (l : List Nat) (p y : Nat) (hl : ∀ x ∈ l, x < 256) (hp : p < l.length) (hy : y < 256) (hn : y ≠ l.getD p 0) (h1 : a < 4294967296) (h2 : b < 4294967296) : sum a b (l.set p y) ≠ sum a b l := by
  have hm : ∀ x ∈ l.set p y, x < 256 := by
    intro x hx
    rcases List.mem_or_eq_of_mem_set hx with h | rfl
    · exact hl x h
    · exact hy
  have hs : steps (l.set p y) = steps l := by unfold steps; rw [List.length_set]
  unfold sum
  rw [hs]
  refine run_ne (p := p) hm hl ?_ (fun d hd => ?_) h1 h2 _ (by unfold steps; omega)
  · rw [List.getD_eq_getElem?_getD, List.getElem?_set_self hp]
    exact hn
  · rw [List.getD_eq_getElem?_getD, List.getD_eq_getElem?_getD, List.getElem?_set_ne (by omega)]

/-- Noughts, begun with noughts, sum up to noughts. -/
theorem run_zeros {l : List Nat} (h : ∀ d, l.getD d 0 = 0) : ∀ k, run l (0, 0) k = (0, 0)
  | 0 => rfl
  | k + 1 => by
    have hw : ∀ i j, wv l i j = 0 := by
      intro i j
      induction j with
      | zero => rfl
      | succ j ih => rw [wv, ih, h]
    rw [run, run_zeros h k]
    unfold step wd
    rw [hw, hw]
    rfl
theorem sum_zeros {l : List Nat} (h : ∀ d, l.getD d 0 = 0) : sum 0 0 l = (0, 0) := run_zeros h _

theorem sum_nil (a b : Nat) : sum a b [] = (a, b) := rfl
theorem sum_wakes : sum 0 0 [0, 0, 0, 1, 0, 0, 0, 2] = (1, 3) := by decide

theorem steps_eight (l : List Nat) (h : l.length = 8) : steps l = 1 := by unfold steps; rw [h]

theorem four (a : Nat) (h : a < 4294967296) : (((0 * 256 + a / 16777216 % 256) * 256 + a / 65536 % 256) * 256 + a / 256 % 256) * 256 + a % 256 = a := by
  have h1 : a / 65536 = a / 256 / 256 := by rw [Nat.div_div_eq_div_mul]
  have h2 : a / 16777216 = a / 256 / 256 / 256 := by rw [Nat.div_div_eq_div_mul, Nat.div_div_eq_div_mul]
  rw [h1, h2]
  have e0 := Nat.div_add_mod a 256
  have e1 := Nat.div_add_mod (a / 256) 256
  have e2 := Nat.div_add_mod (a / 256 / 256) 256
  have e3 : a / 256 / 256 / 256 < 256 := by omega
  rw [Nat.mod_eq_of_lt e3]
  omega

/-- Two words. -/
theorem sum_two (a b : Nat) (h1 : a < 4294967296) (h2 : b < 4294967296) :
    sum 0 0 [a / 16777216 % 256, a / 65536 % 256, a / 256 % 256, a % 256, b / 16777216 % 256, b / 65536 % 256, b / 256 % 256, b % 256] = (a, (b + a) % 4294967296) := by
  have e : ∀ x0 x1 x2 x3 y0 y1 y2 y3 : Nat, sum 0 0 [x0, x1, x2, x3, y0, y1, y2, y3] = step [x0, x1, x2, x3, y0, y1, y2, y3] 0 (0, 0) := by
    intros
    unfold sum
    rw [steps_eight _ rfl]
    rfl
  rw [e]
  have e1 : ∀ x0 x1 x2 x3 y0 y1 y2 y3 : Nat, wd [x0, x1, x2, x3, y0, y1, y2, y3] 0 = (((0 * 256 + x0) * 256 + x1) * 256 + x2) * 256 + x3 := fun _ _ _ _ _ _ _ _ => rfl
  have e2 : ∀ x0 x1 x2 x3 y0 y1 y2 y3 : Nat, wd [x0, x1, x2, x3, y0, y1, y2, y3] (0 + 4) = (((0 * 256 + y0) * 256 + y1) * 256 + y2) * 256 + y3 := fun _ _ _ _ _ _ _ _ => rfl
  unfold step
  rw [e1, e2]
  rw [four a h1, four b h2]
  simp only [Nat.zero_add, Nat.add_zero]
  rw [Nat.mod_eq_of_lt h1]

/-- What is left behind k steps. -/
theorem steps_done {l : List Nat} {k : Nat} (h1 : k ≤ steps l) (h2 : l.length ≤ 8 * k) : k = steps l := by unfold steps at *; omega

theorem or_low (m x k : Nat) (h : x < 2 ^ k) : (m * 2 ^ k) ||| x = m * 2 ^ k + x := by
  rw [Nat.mul_comm, ← Nat.two_pow_add_eq_or_of_lt h]
end Go.Proofs.YtchbheoapldkaaaGreat.M8
namespace Go.Proofs.YtchbheoapldkaaaGreat
open Go.ChangeShapes Go.WideShapes Go.ChangeAt Go.RowKit Go.Deep

theorem or_u32 (m x : Nat) (hm : m < 16777216) (hx : x < 256) : bits .or .u32 ((m : Int) * 256) (x : Int) = ((m * 256 + x : Nat) : Int) := by
  have e : ((m : Int) * 256) = ((m * 256 : Nat) : Int) := by omega
  rw [e, u32_or_nat _ _ (by omega) (by omega)]
  exact congrArg Int.ofNat (M8.or_low m x 8 hx)

theorem ret_u32 {a b : Int} (h : a = b) : Ending.returned (.int .u32 a) = .returned (.int .u32 b) := by rw [h]
theorem ret_u32s {a b c d : Int} (h1 : a = c) (h2 : b = d) : Ending.returned (.tuple #[.int .u32 a, .int .u32 b]) = .returned (.tuple #[.int .u32 c, .int .u32 d]) := by rw [h1, h2]

set_option maxRecDepth 100000 in
set_option maxHeartbeats 400000 in
theorem word_any (v : Value) (l : List Nat) (w : World) (hv : Sees w v l) (hl : ∀ x ∈ l, x < 256) (h4 : l.length = 4) :
    Calls Tryz.prog 147 #[v] w fun e w' => e = .returned (.int .u32 (M8.wd l 0)) ∧ w' = w := by
  obtain ⟨⟨a, ca, rfl, ha⟩, hma⟩ := hv
  rw [h4] at *
  obtain ⟨b, o, rfl, hc⟩ := ha (by omega)
  have HL := Hid.mk' hl
  clear ha h4 hma hl
  go_enter Tryz.func147, Tryz.ntmps147
  go_wp2
  go_loopw [3, 8] (fun t i wr => ∃ k : Nat, k ≤ 4 ∧ i = .int .i64 k ∧ t = .int .u32 (M8.wv l 0 k) ∧ wr = w) (fun _ i _ => 4 - (intOf i).toNat)
  case atStart => exact ⟨0, by omega, rfl, rfl, rfl⟩
  case round =>
    obtain ⟨k, hk, rfl, rfl, rfl⟩ := hrel
    by_cases hlt : k < 4
    · have c1 := hc k hlt
      have hm := M8.wv_small HL.out 0 (k := k) (by omega)
      have hx := M8.getD_lt HL.out k
      have HS : Hid (M8.wv l 0 (k + 1) = M8.wv l 0 k * 256 + l.getD k 0) := by show _ = _; rw [M8.wv, Nat.zero_add]
      clear hc
      generalize l.getD k 0 = x at *
      generalize M8.wv l 0 k = m at *
      go_wp2
      go_roundw
      case rel =>
        refine ⟨k + 1, by omega, by go_num, ?_, by trivial⟩
        rw [or_u32 m x hm hx, HS.out]
      case measure => simp [intOf]; omega
    · have e : k = 4 := by omega
      have HE : Hid (M8.wd l 0 = M8.wv l 0 k) := by show _ = _; rw [e]; rfl
      clear e
      generalize M8.wv l 0 k = m at *
      go_wp2
      go_ret
      exact ⟨ret_u32 (by rw [HE.out]), rfl⟩

/-- The eight bytes that words lays: those of l, noughts behind. -/
def pad8 (l : List Nat) : List Nat := (List.range 8).map fun i => l.getD i 0
theorem pad8_get (l : List Nat) {i : Nat} (h : i < 8) : (pad8 l).getD i 0 = l.getD i 0 := by
  unfold pad8
  rw [List.getD_eq_getElem?_getD, List.getElem?_map, List.getElem?_range h]
  rfl
theorem pad8_lt {l : List Nat} (hl : ∀ x ∈ l, x < 256) : ∀ x ∈ pad8 l, x < 256 := by
  intro x hx
  obtain ⟨i, _, rfl⟩ := List.mem_map.1 hx
  exact M8.getD_lt hl i
theorem pad8_length (l : List Nat) : (pad8 l).length = 8 := by simp [pad8]

theorem splice_pad (l : List Nat) (h : l.length ≤ 8) : splice ((List.replicate 8 0).map B8) 0 (l.map B8) = (pad8 l).map B8 := by
  unfold splice
  rw [List.take_zero, List.nil_append, ← List.map_drop, ← List.map_append]
  congr 1
  apply M8.eq_of_getD
  · simp [pad8]; omega
  · intro j hj
    rw [pad8_length] at hj
    rw [pad8_get l hj, Nat.zero_add, List.length_map]
    by_cases h1 : j < l.length
    · simp [List.getD_eq_getElem?_getD, List.getElem?_append_left h1]
    · rw [M8.getD_past l (by omega), List.getD_eq_getElem?_getD, List.getElem?_append_right (by omega), List.drop_replicate, List.getElem?_replicate]
      split <;> rfl

theorem sees_blk {w : World} {g o n cap : Nat} {t : TypeId} {m : List Nat} (h : w.heap[g]? = some (.cells (m.map B8).toArray t (0, 0))) (hn : o + n ≤ m.length) (hm : n ≤ 9223372036854775807) : Sees w (.slice (some ⟨g, o, none⟩) n cap) ((m.drop o).take n) := by
  have hl : ((m.drop o).take n).length = n := by simp; omega
  refine ⟨⟨some ⟨g, o, none⟩, cap, by rw [hl], fun _ => ⟨g, o, rfl, fun j hj => ?_⟩⟩, by omega⟩
  rw [hl] at hj
  rw [cell_of_row w g (o + j) _ t (0, 0) h, M8.getD_take _ hj, M8.getD_drop]
  have hlt : o + j < m.length := by omega
  simp [List.getD_eq_getElem?_getD, hlt, B8]

theorem wd_pad0 (l : List Nat) : M8.wd (((pad8 l).drop 0).take 4) 0 = M8.wd l 0 :=
  M8.wd_congr fun d hd => by rw [Nat.zero_add, M8.getD_take _ hd, M8.getD_drop, Nat.zero_add, pad8_get l (by omega)]
theorem wd_pad4 (l : List Nat) : M8.wd (((pad8 l).drop 4).take 4) 0 = M8.wd l 4 :=
  M8.wd_congr fun d hd => by rw [Nat.zero_add, M8.getD_take _ hd, M8.getD_drop, pad8_get l (by omega)]

theorem size_u8 : (Tryz.prog.info? 5).map (·.size) = some 1 := by kernel_rfl

/-- Bytes copied into an array of eight noughts. -/
theorem copy_in (w W : World) (v : Value) (l : List Nat) (Z : List Value) (hZ : Z = (List.replicate 8 0).map B8) (hg : W.heap[w.heap.size]? = some (.cells Z.toArray 156 (0, 0))) (hb : Below w.heap.size w W) (hv : Sees w v l) (h8 : l.length ≤ 8) :
    ∃ w', (Builtin.copy_ #[37, 37] 3 #[.slice (some ⟨w.heap.size, 0, none⟩) 8 8, v]).run Tryz.prog W = .ok (goInt l.length) w' ∧
      w'.heap[w.heap.size]? = some (.cells ((pad8 l).map B8).toArray 156 (0, 0)) ∧ Below w.heap.size w w' := by
  have hsp := splice_pad l h8
  rw [← hZ] at hsp
  have hZl : Z.length = 8 := by rw [hZ]; rfl
  clear hZ
  obtain ⟨⟨a, ca, rfl, ha⟩, hma⟩ := hv
  by_cases h0 : 1 ≤ l.length
  · obtain ⟨b, o, rfl, hc⟩ := ha h0
    have hr := run_copy_row (P := Tryz.prog) W 37 37 3 5 w.heap.size 0 8 8 ⟨b, o, none⟩ l.length ca Z.toArray 156 (l.map B8) Tryz.underlying37 size_u8 hg (by rw [List.length_map]; exact (Nat.min_eq_left h8).symm) (fun j u hu => by
      have hlt : j < l.length := by simpa using (List.getElem?_eq_some_iff.1 hu).1
      have e : (⟨b, o, none⟩ : Addr).add j = ⟨b, o + j, none⟩ := by unfold Addr.add; split <;> simp_all
      have hcj := hc j hlt
      rw [e, cell_on hb hcj]
      simp [List.getElem?_eq_getElem hlt, B8] at hu
      simp [List.getD_eq_getElem?_getD, hlt, ← hu]) (by simp [hZl]; omega) (one_B8 l)
    rw [List.length_map] at hr
    refine ⟨_, hr, ?_, below_setRow hb (Nat.le_refl _) _⟩
    rw [← hsp]
    simpa [splice] using setRow_heap W w.heap.size _ _ 156 _ hg
  · have hn : l = [] := List.eq_nil_of_length_eq_zero (by omega)
    subst hn
    refine ⟨W, run_copy_none (P := Tryz.prog) _ 37 37 3 5 _ _ 8 8 0 ca Tryz.underlying37 size_u8 rfl, ?_, hb⟩
    rw [hg, ← hsp]
    simp [splice]

theorem copy_pad (w : World) (v : Value) (l : List Nat) (hv : Sees w v l) (h8 : l.length ≤ 8) :
    ∃ w', (Builtin.copy_ #[37, 37] 3 #[.slice (some ⟨w.heap.size, 0, none⟩) 8 8, v]).run Tryz.prog (w.alloc (.cells #[.int .u8 0, .int .u8 0, .int .u8 0, .int .u8 0, .int .u8 0, .int .u8 0, .int .u8 0, .int .u8 0] 156)) = .ok (goInt l.length) w' ∧
      w'.heap[w.heap.size]? = some (.cells ((pad8 l).map B8).toArray 156 (0, 0)) ∧ Below w.heap.size w w' :=
  copy_in w _ v l [.int .u8 0, .int .u8 0, .int .u8 0, .int .u8 0, .int .u8 0, .int .u8 0, .int .u8 0, .int .u8 0] rfl (heap_alloc_new w _) ((Below.refl _ _).alloc (Nat.le_refl _) _) hv h8

set_option maxRecDepth 100000 in
set_option maxHeartbeats 400000 in
theorem words_any (v : Value) (l : List Nat) (w : World) (hv : Sees w v l) (hl : ∀ x ∈ l, x < 256) (h8 : l.length ≤ 8) :
    Calls Tryz.prog 127 #[v] w fun e w' => e = .returned (.tuple #[.int .u32 (M8.wd l 0), .int .u32 (M8.wd l 4)]) ∧ Below w.heap.size w w' := by
  have HV := Hid.mk' hv
  obtain ⟨⟨a, ca, rfl, ha⟩, hma⟩ := hv
  have HL := Hid.mk' hl
  clear ha hl
  go_enter Tryz.func127, Tryz.ntmps127
  obtain ⟨w1, hr, hg, hb1⟩ := copy_pad w (.slice a l.length ca) l HV.out h8
  go_wp2_with fail
  have S0 := Hid.mk' (sees_blk (o := 0) (n := 4) (cap := 8) hg (by rw [pad8_length]; omega) (by omega))
  have S4 := Hid.mk' (sees_blk (o := 4) (n := 4) (cap := 4) hg (by rw [pad8_length]; omega) (by omega))
  have P := Hid.mk' (pad8_lt HL.out)
  clear hg hr HV
  go_wp2
  go_quiet (first
    | (go_at_call 147; exact Calls.quiet_of_same (word_any _ _ _ (S0.out.drewN _) (fun x hx => P.out x (List.mem_of_mem_drop (List.mem_of_mem_take hx))) (by rw [List.length_take, List.length_drop, pad8_length]; rfl)))
    | (go_at_call 147; exact Calls.quiet_of_same (word_any _ _ _ (S4.out.drewN _) (fun x hx => P.out x (List.mem_of_mem_drop (List.mem_of_mem_take hx))) (by rw [List.length_take, List.length_drop, pad8_length]; rfl))))
  go_wp2
  go_ret2
  exact ⟨ret_u32s (by rw [wd_pad0]) (by rw [wd_pad4]), below_drewN hb1 _⟩

def lenOf : Value → Nat
  | .slice _ n _ => n
  | _ => 0

/-- Where the run stands at the label. -/
def J7 (l : List Nat) (s : Nat × Nat) (w : World) (a' : Act) (w' : World) : Prop :=
  Below w.heap.size w w' ∧ ∃ (k : Nat) (A B : Int) (v u8 u9 u10 u11 u12 u13 u14 u15 u16 u17 u18 u19 u20 u21 u22 u23 u24 u25 u26 u27 u28 u29 u30 u31 u32 u33 u34 u35 u36 u37 u38 : Value), a' = { tmps := #[.int .u32 A, .int .u32 B, v, undef, undef, undef, .int .u32 0, .int .u32 0, u8, u9, u10, u11, u12, u13, u14, u15, u16, u17, u18, u19, u20, u21, u22, u23, u24, u25, u26, u27, u28, u29, u30, u31, u32, u33, u34, u35, u36, u37, u38], defers := [] } ∧ A = ((M8.run l s k).1 : Nat) ∧ B = ((M8.run l s k).2 : Nat) ∧ k ≤ M8.steps l ∧ Sees w v (l.drop (8 * k)) ∧ Roomy v
def mu7 (a' : Act) (_ : World) : Nat := lenOf (a'.tmps.getD 2 undef)

theorem wd_head (l : List Nat) (k n : Nat) (h : n = (l.drop (8 * k)).length ∨ n = 8) : M8.wd ((l.drop (8 * k)).take n) 0 = M8.wd l (8 * k) ∧ M8.wd ((l.drop (8 * k)).take n) 4 = M8.wd l (8 * k + 4) := by
  have e : ∀ d, d < 8 → ((l.drop (8 * k)).take n).getD d 0 = l.getD (8 * k + d) 0 := by
    intro d hd
    by_cases h1 : d < n
    · rw [M8.getD_take _ h1, M8.getD_drop]
    · rw [M8.getD_past _ (by rw [List.length_take]; omega), M8.getD_past l (by rw [List.length_drop] at h; omega)]
  refine ⟨M8.wd_congr fun d hd => ?_, M8.wd_congr fun d hd => ?_⟩
  · rw [Nat.zero_add]; exact e d (by omega)
  · rw [Nat.add_assoc]; exact e (4 + d) (by omega)

set_option maxRecDepth 100000 in
set_option maxHeartbeats 400000 in
theorem sum_any (a b : Nat) (v : Value) (l : List Nat) (w : World) (hv : Sees w v l) (hl : ∀ x ∈ l, x < 256) (hr : Roomy v) :
    Calls Tryz.prog 112 #[.int .u32 a, .int .u32 b, v] w fun e w' => e = .returned (.tuple #[.int .u32 (M8.sum a b l).1, .int .u32 (M8.sum a b l).2]) ∧ Below w.heap.size w w' := by
  have HV := Hid.mk' hv
  have HR := Hid.mk' hr
  obtain ⟨⟨a0, ca0, rfl, ha0⟩, hma0⟩ := hv
  have HL := Hid.mk' hl
  clear ha0 hl hr
  go_enter Tryz.func112, Tryz.ntmps112
  go_wp2
  refine wp_scope_head 0 (J7 l (a, b) w) mu7 ?_ ?_
  · exact ⟨Below.refl _ _, 0, _, _, _, _, _, _, _, _, _, _, _, _, _, _, _, _, _, _, _, _, _, _, _, _, _, _, _, _, _, _, _, _, _, _, rfl, rfl, rfl, Nat.zero_le _, HV.out, HR.out⟩
  · rintro a' w' ⟨hb, k, A, B, v1, u8, u9, u10, u11, u12, u13, u14, u15, u16, u17, u18, u19, u20, u21, u22, u23, u24, u25, u26, u27, u28, u29, u30, u31, u32, u33, u34, u35, u36, u37, u38, rfl, rfl, rfl, hk, hs, hr⟩
    have HS := Hid.mk' hs
    obtain ⟨⟨a1, c1, rfl, ha1⟩, hm1⟩ := hs
    obtain ⟨_, _, _, hr1, hr2⟩ := hr
    obtain ⟨rfl, rfl, rfl⟩ := by simpa using hr1
    clear hr1 ha1
    have H0 := Hid.mk' (fun h => M8.steps_done (l := l) hk h)
    have HN : Hid (M8.run l (a, b) (k + 1) = M8.step l (8 * k) (M8.run l (a, b) k)) := rfl
    have HLen : Hid ((l.drop (8 * k)).length = l.length - 8 * k) := List.length_drop
    have HW := Hid.mk' (wd_head l k)
    have hl1 : ∀ x ∈ l.drop (8 * k), x < 256 := fun x hx => HL.out x (List.mem_of_mem_drop hx)
    have HL1 := Hid.mk' hl1
    have HSum : Hid (M8.sum a b l = M8.run l (a, b) (M8.steps l)) := rfl
    have HD : Hid (∀ n, (l.drop (8 * k)).drop n = l.drop (8 * k + n)) := fun n => List.drop_drop
    have HK := Hid.mk' hk
    clear hl1 hk
    obtain ⟨⟨p, q⟩, hpq⟩ : ∃ s, M8.run l (a, b) k = s := ⟨_, rfl⟩
    rw [hpq] at HN
    have HPQ := Hid.mk' hpq
    rw [hpq]
    generalize hR : l.drop (8 * k) = r at *
    clear hR hpq
    simp only
    by_cases hz : r.length = 0
    · have t1 : ((r.length : Int) == 0) = true := by rw [beq_iff_eq]; omega
      have HE := Hid.mk' (H0.out (by have := HLen.out; omega))
      clear hz
      go_wp2
      simp only [Exit.jump]
      go_ret2
      rw [HSum.out, ← HE.out, HPQ.out]
      exact ⟨rfl, hb⟩
    · have t1 : ((r.length : Int) == 0) = false := by rw [beq_eq_false_iff_ne]; omega
      have HZ := Hid.mk' hz
      clear hz
      have hr3 : r.length ≤ c1 := by have := HLen.out; omega
      clear hr2
      by_cases h8 : r.length ≤ 8
      · have HWW := Hid.mk' (HW.out r.length (.inl rfl))
        go_wp2_with fail
        refine (words_any _ (r.take r.length) _ ((HS.out.below hb).take r.length (Nat.le_refl _)) (fun x hx => HL1.out x (List.mem_of_mem_take hx)) (by rw [List.length_take]; omega)).mono ?_
        rintro e w2 ⟨rfl, hb2⟩
        rw [HWW.out.1, HWW.out.2]
        have HB : Hid (Below w.heap.size w w2) := hb.trans (hb2.mono hb.size)
        clear hb hb2
        have HST : Hid (M8.step l (8 * k) (p, q) = ((p + M8.wd l (8 * k) + q) % 4294967296, (q + M8.wd l (8 * k + 4) + (p + M8.wd l (8 * k) + q) % 4294967296) % 4294967296)) := rfl
        generalize M8.wd l (8 * k) = x at *
        generalize M8.wd l (8 * k + 4) = y at *
        go_wp2
        all_goals
          go_step3
          have hst := HST.out
          have hn := HN.out
          rw [hst] at hn
          refine ⟨rfl, ⟨HB.out, k + 1, _, _, _, _, _, _, _, _, _, _, _, _, _, _, _, _, _, _, _, _, _, _, _, _, _, _, _, _, _, _, _, _, _, _, rfl, by rw [hn]; show _ = (((p + x + q) % 4294967296 : Nat) : Int); omega, by rw [hn]; show _ = (((q + y + (p + x + q) % 4294967296) % 4294967296 : Nat) : Int); omega, by have := HZ.out; have := HLen.out; unfold M8.steps; omega, ?_, ⟨_, _, _, rfl, by omega⟩⟩, ?_⟩
          · rw [List.drop_of_length_le (by have := HLen.out; omega)]
            exact ⟨⟨_, _, rfl, fun h => absurd h (by simp)⟩, by simp⟩
          · have := HZ.out
            show lenOf (Value.slice _ _ _) < lenOf (Value.slice _ _ _)
            simp only [lenOf]
            omega
      · have HWW := Hid.mk' (HW.out 8 (.inr rfl))
        obtain ⟨b1, o1, rfl⟩ : ∃ b1 o1, a1 = some ⟨b1, o1, none⟩ := by
          obtain ⟨⟨a', c', he, hc'⟩, _⟩ := HS.out
          obtain ⟨rfl, rfl⟩ := by simpa using he
          obtain ⟨b1, o1, h, _⟩ := hc' (by omega)
          exact ⟨b1, o1, h⟩
        go_wp2_with fail
        refine (words_any _ (r.take 8) _ ((HS.out.below hb).take 8 (by omega)) (fun x hx => HL1.out x (List.mem_of_mem_take hx)) (by rw [List.length_take]; omega)).mono ?_
        rintro e w2 ⟨rfl, hb2⟩
        rw [HWW.out.1, HWW.out.2]
        have HB : Hid (Below w.heap.size w w2) := hb.trans (hb2.mono hb.size)
        clear hb hb2
        have HST : Hid (M8.step l (8 * k) (p, q) = ((p + M8.wd l (8 * k) + q) % 4294967296, (q + M8.wd l (8 * k + 4) + (p + M8.wd l (8 * k) + q) % 4294967296) % 4294967296)) := rfl
        generalize M8.wd l (8 * k) = x at *
        generalize M8.wd l (8 * k + 4) = y at *
        go_wp2
        all_goals
          go_step3
          have hst := HST.out
          have hn := HN.out
          rw [hst] at hn
          refine ⟨rfl, ⟨HB.out, k + 1, _, _, _, _, _, _, _, _, _, _, _, _, _, _, _, _, _, _, _, _, _, _, _, _, _, _, _, _, _, _, _, _, _, _, rfl, by rw [hn]; show _ = (((p + x + q) % 4294967296 : Nat) : Int); omega, by rw [hn]; show _ = (((q + y + (p + x + q) % 4294967296) % 4294967296 : Nat) : Int); omega, by have := HZ.out; have := HLen.out; unfold M8.steps; omega, ?_, ⟨_, _, _, rfl, by omega⟩⟩, ?_⟩
          · rw [show 8 * (k + 1) = 8 * k + 8 by omega, ← HD.out 8]
            have hd := HS.out.drop1 8 (by omega)
            rw [Option.map_some, add_plain] at hd
            exact hd
          · have := HZ.out
            show lenOf (Value.slice _ _ _) < lenOf (Value.slice _ _ _)
            simp only [lenOf]
            omega
end Go.Proofs.YtchbheoapldkaaaGreat
