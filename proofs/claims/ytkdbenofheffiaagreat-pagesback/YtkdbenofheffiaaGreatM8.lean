/-
  The mathematics of sums: words of four bytes, two words a step, modulo 2 to the 32nd; parts, noughts, a turned byte.
-/
import Derived.Test.YtkdbenofheffiaaGreatRows
namespace Go.Proofs.YtkdbenofheffiaaGreat.M8

theorem eq_of_getD (la lb : List Nat) (h : la.length = lb.length) (hk : ∀ j, j < lb.length → la.getD j 0 = lb.getD j 0) : la = lb := by
  apply List.ext_getElem h
  intro i h1 h2
  have := hk i h2
  simpa [List.getD_eq_getElem?_getD, h1, h2] using this

/-- The number of the k bytes from place i on, noughts where there is none, the highest first. -/
def wv (l : List Nat) (i : Nat) : Nat → Nat
  | 0 => 0
  | k + 1 => wv l i k * 256 + l.getD (i + k) 0
/-- The word from place i on. -/
def wd (l : List Nat) (i : Nat) : Nat := wv l i 4

theorem getD_lt {l : List Nat} (hl : ∀ x ∈ l, x < 256) (i : Nat) : l.getD i 0 < 256 := by
  by_cases h : i < l.length
  · rw [show l.getD i 0 = l[i] by simp [List.getD_eq_getElem?_getD, h]]
    exact hl _ (List.getElem_mem h)
  · rw [List.getD_eq_getElem?_getD, List.getElem?_eq_none (by omega)]
    decide

theorem wv_lt {l : List Nat} (hl : ∀ x ∈ l, x < 256) (i : Nat) : ∀ k, wv l i k < 256 ^ k
  | 0 => by simp [wv]
  | k + 1 => by
    have h := wv_lt hl i k
    have h2 := getD_lt hl (i + k)
    rw [wv, Nat.pow_succ]
    omega
theorem wv_small {l : List Nat} (hl : ∀ x ∈ l, x < 256) (i : Nat) {k : Nat} (hk : k ≤ 3) : wv l i k < 16777216 := by
  have h1 := wv_lt hl i k
  have h2 : 256 ^ k ≤ 256 ^ 3 := Nat.pow_le_pow_right (by omega) hk
  have h3 : (256 : Nat) ^ 3 = 16777216 := rfl
  omega
theorem wd_lt {l : List Nat} (hl : ∀ x ∈ l, x < 256) (i : Nat) : wd l i < 4294967296 := wv_lt hl i 4

theorem wv_congr {l m : List Nat} {i j : Nat} : ∀ k, (∀ d, d < k → l.getD (i + d) 0 = m.getD (j + d) 0) → wv l i k = wv m j k
  | 0, _ => rfl
  | k + 1, h => by
    rw [wv, wv, wv_congr k (fun d hd => h d (by omega)), h k (by omega)]
theorem wd_congr {l m : List Nat} {i j : Nat} (h : ∀ d, d < 4 → l.getD (i + d) 0 = m.getD (j + d) 0) : wd l i = wd m j := wv_congr 4 h

/-- A step: two words. -/
def step (l : List Nat) (i : Nat) (s : Nat × Nat) : Nat × Nat :=
  ((s.1 + wd l i + s.2) % 4294967296, (s.2 + wd l (i + 4) + (s.1 + wd l i + s.2) % 4294967296) % 4294967296)
/-- The first k steps. -/
def run (l : List Nat) (s : Nat × Nat) : Nat → Nat × Nat
  | 0 => s
  | k + 1 => step l (8 * k) (run l s k)
/-- How many steps bytes ask for. -/
def steps (l : List Nat) : Nat := (l.length + 7) / 8
/-- The sum. -/
def sum (a b : Nat) (l : List Nat) : Nat × Nat := run l (a, b) (steps l)

theorem step_congr {l m : List Nat} {i j : Nat} (h : ∀ d, d < 8 → l.getD (i + d) 0 = m.getD (j + d) 0) (s : Nat × Nat) : step l i s = step m j s := by
  have h1 : wd l i = wd m j := wd_congr fun d hd => h d (by omega)
  have h2 : wd l (i + 4) = wd m (j + 4) := wd_congr fun d hd => by
    rw [Nat.add_assoc, Nat.add_assoc]; exact h (4 + d) (by omega)
  unfold step
  rw [h1, h2]

theorem run_congr {l m : List Nat} (s : Nat × Nat) : ∀ k, (∀ d, d < 8 * k → l.getD d 0 = m.getD d 0) → run l s k = run m s k
  | 0, _ => rfl
  | k + 1, h => by
    rw [run, run, run_congr s k (fun d hd => h d (by omega))]
    exact step_congr (fun d hd => h _ (by omega)) _

theorem run_add (l m : List Nat) (s : Nat × Nat) (k : Nat) : ∀ j, (∀ d, d < 8 * j → m.getD d 0 = l.getD (8 * k + d) 0) → run m (run l s k) j = run l s (k + j)
  | 0, _ => rfl
  | j + 1, h => by
    rw [run, run_add l m s k j (fun d hd => h d (by omega)), ← Nat.add_assoc, run]
    refine step_congr (fun d hd => ?_) _
    rw [h _ (by omega)]
    congr 1
    omega

theorem getD_drop (l : List Nat) (k d : Nat) : (l.drop k).getD d 0 = l.getD (k + d) 0 := by
  simp [List.getD_eq_getElem?_getD, List.getElem?_drop]
theorem getD_take (l : List Nat) {k d : Nat} (h : d < k) : (l.take k).getD d 0 = l.getD d 0 := by
  simp [List.getD_eq_getElem?_getD, h]
theorem getD_past (l : List Nat) {d : Nat} (h : l.length ≤ d) : l.getD d 0 = 0 := by
  rw [List.getD_eq_getElem?_getD, List.getElem?_eq_none h]; rfl

/-- Of two parts, the first one a multiple of eight bytes. -/
theorem sum_parts (a b : Nat) (l : List Nat) (k : Nat) (hk : 8 * k ≤ l.length) : sum (sum a b (l.take (8 * k))).1 (sum a b (l.take (8 * k))).2 (l.drop (8 * k)) = sum a b l := by
  have hs : steps (l.take (8 * k)) = k := by unfold steps; rw [List.length_take]; omega
  have hd : steps l = k + steps (l.drop (8 * k)) := by unfold steps; rw [List.length_drop]; omega
  have e1 : sum a b (l.take (8 * k)) = run l (a, b) k := by
    unfold sum
    rw [hs]
    exact run_congr _ _ fun d hd => getD_take l hd
  have e2 : sum a b l = run l (a, b) (k + steps (l.drop (8 * k))) := by unfold sum; rw [hd]
  rw [e1, e2]
  show run _ (run l (a, b) k) _ = _
  exact run_add l _ (a, b) k _ fun d _ => getD_drop l _ d

/-- Noughts up to the next eight change nothing. -/
theorem sum_pad (a b : Nat) (l m : List Nat) (h : ∀ d, m.getD d 0 = l.getD d 0) (hs : steps m = steps l) : sum a b m = sum a b l := by
  unfold sum
  rw [hs]
  exact run_congr _ _ fun d _ => h d

theorem run_lt (l : List Nat) {s : Nat × Nat} (h1 : s.1 < 4294967296) (h2 : s.2 < 4294967296) : ∀ k, (run l s k).1 < 4294967296 ∧ (run l s k).2 < 4294967296
  | 0 => ⟨h1, h2⟩
  | k + 1 => by
    rw [run]
    exact ⟨Nat.mod_lt _ (by omega), Nat.mod_lt _ (by omega)⟩
theorem sum_lt {a b : Nat} (l : List Nat) (h1 : a < 4294967296) (h2 : b < 4294967296) : (sum a b l).1 < 4294967296 ∧ (sum a b l).2 < 4294967296 := run_lt l (s := (a, b)) h1 h2 _

/-- A step is turned back. -/
theorem step_inj {l : List Nat} {i : Nat} {s t : Nat × Nat} (hs : s.1 < 4294967296 ∧ s.2 < 4294967296) (ht : t.1 < 4294967296 ∧ t.2 < 4294967296) (h : step l i s = step l i t) : s = t := by
  obtain ⟨a, b⟩ := s
  obtain ⟨c, d⟩ := t
  unfold step at h
  simp only [Prod.mk.injEq] at h hs ht ⊢
  obtain ⟨h1, h2⟩ := h
  rw [h1] at h2
  generalize wd l (i + 4) + (c + wd l i + d) % 4294967296 = z at h2
  have e2 : b = d := by omega
  subst e2
  exact ⟨by omega, rfl⟩

theorem step_ne1 {l m : List Nat} {i : Nat} (s : Nat × Nat) (hl : wd l i < 4294967296) (hm : wd m i < 4294967296) (h : wd l i ≠ wd m i) : step l i s ≠ step m i s := by
  unfold step
  simp only [ne_eq, Prod.mk.injEq]
  rintro ⟨h1, _⟩
  omega
theorem step_ne2 {l m : List Nat} {i : Nat} (s : Nat × Nat) (hl : wd l (i + 4) < 4294967296) (hm : wd m (i + 4) < 4294967296) (h0 : wd l i = wd m i) (h : wd l (i + 4) ≠ wd m (i + 4)) : step l i s ≠ step m i s := by
  unfold step
  simp only [ne_eq, Prod.mk.injEq]
  rintro ⟨_, h2⟩
  rw [h0] at h2
  omega

theorem wv_ne {l m : List Nat} {i p : Nat} (hl : ∀ x ∈ l, x < 256) (hm : ∀ x ∈ m, x < 256) (hp : l.getD (i + p) 0 ≠ m.getD (i + p) 0) (ho : ∀ d, d ≠ p → l.getD (i + d) 0 = m.getD (i + d) 0) : ∀ k, p < k → wv l i k ≠ wv m i k
  | 0, h => by omega
  | k + 1, h => by
    rw [wv, wv]
    by_cases hk : p = k
    · subst hk
      have e : wv l i p = wv m i p := wv_congr p fun d hd => ho d (by omega)
      rw [e]
      omega
    · have hne := wv_ne hl hm hp ho k (by omega)
      have e := ho k (by omega)
      have h1 := getD_lt hl (i + k)
      rw [← e]
      omega

theorem run_ne {l m : List Nat} {p : Nat} (hl : ∀ x ∈ l, x < 256) (hm : ∀ x ∈ m, x < 256) (hp : l.getD p 0 ≠ m.getD p 0) (ho : ∀ d, d ≠ p → l.getD d 0 = m.getD d 0) {s : Nat × Nat} (h1 : s.1 < 4294967296) (h2 : s.2 < 4294967296) :
    ∀ k, p < 8 * k → run l s k ≠ run m s k
  | 0, h => by omega
  | k + 1, h => by
    rw [run, run]
    by_cases hk : p < 8 * k
    · have ih := run_ne hl hm hp ho h1 h2 k hk
      rw [step_congr (l := l) (m := m) (i := 8 * k) (j := 8 * k) (fun d _ => ho _ (by omega))]
      intro he
      exact ih (step_inj (run_lt l h1 h2 k) (run_lt m h1 h2 k) he)
    · have e : run l s k = run m s k := run_congr s k fun d hd => ho d (by omega)
      rw [e]
      by_cases hq : p < 8 * k + 4
      · exact step_ne1 _ (wd_lt hl _) (wd_lt hm _) (wv_ne (p := p - 8 * k) hl hm (by rw [show 8 * k + (p - 8 * k) = p by omega]; exact hp) (fun d hd => ho _ (by omega)) 4 (by omega))
      · refine step_ne2 _ (wd_lt hl _) (wd_lt hm _) (wd_congr fun d hd => ho _ (by omega)) (wv_ne (p := p - (8 * k + 4)) hl hm (by rw [show 8 * k + 4 + (p - (8 * k + 4)) = p by omega]; exact hp) (fun d hd => ho _ (by omega)) 4 (by omega))

/-- One turned byte changes a sum. -/
theorem sum_turned (a b : Nat) (l : List Nat) (p y : Nat) (hl : ∀ x ∈ l, x < 256) (hp : p < l.length) (hy : y < 256) (hn : y ≠ l.getD p 0) (h1 : a < 4294967296) (h2 : b < 4294967296) : sum a b (l.set p y) ≠ sum a b l := by
  have hm : ∀ x ∈ l.set p y, x < 256 := by
    intro x hx
    rcases List.mem_or_eq_of_mem_set hx with h | rfl
    · exact hl x h
    · exact hy
  have hs : steps (l.set p y) = steps l := by unfold steps; rw [List.length_set]
  unfold sum
  rw [hs]
  refine run_ne (p := p) hm hl ?_ (fun d hd => ?_) h1 h2 _ (by unfold steps; omega)
  · rw [List.getD_eq_getElem?_getD, List.getElem?_set_self hp]
    exact hn
  · rw [List.getD_eq_getElem?_getD, List.getD_eq_getElem?_getD, List.getElem?_set_ne (by omega)]

/-- Noughts, begun with noughts, sum up to noughts. -/
theorem run_zeros {l : List Nat} (h : ∀ d, l.getD d 0 = 0) : ∀ k, run l (0, 0) k = (0, 0)
  | 0 => rfl
  | k + 1 => by
    have hw : ∀ i j, wv l i j = 0 := by
      intro i j
      induction j with
      | zero => rfl
      | succ j ih => rw [wv, ih, h]
    rw [run, run_zeros h k]
    unfold step wd
    rw [hw, hw]
    rfl
theorem sum_zeros {l : List Nat} (h : ∀ d, l.getD d 0 = 0) : sum 0 0 l = (0, 0) := run_zeros h _

theorem sum_nil (a b : Nat) : sum a b [] = (a, b) := rfl
theorem sum_wakes : sum 0 0 [0, 0, 0, 1, 0, 0, 0, 2] = (1, 3) := by decide

theorem steps_eight (l : List Nat) (h : l.length = 8) : steps l = 1 := by unfold steps; rw [h]

theorem four (a : Nat) (h : a < 4294967296) : (((0 * 256 + a / 16777216 % 256) * 256 + a / 65536 % 256) * 256 + a / 256 % 256) * 256 + a % 256 = a := by
  have h1 : a / 65536 = a / 256 / 256 := by rw [Nat.div_div_eq_div_mul]
  have h2 : a / 16777216 = a / 256 / 256 / 256 := by rw [Nat.div_div_eq_div_mul, Nat.div_div_eq_div_mul]
  rw [h1, h2]
  have e0 := Nat.div_add_mod a 256
  have e1 := Nat.div_add_mod (a / 256) 256
  have e2 := Nat.div_add_mod (a / 256 / 256) 256
  have e3 : a / 256 / 256 / 256 < 256 := by omega
  rw [Nat.mod_eq_of_lt e3]
  omega

/-- Two words. -/
theorem sum_two (a b : Nat) (h1 : a < 4294967296) (h2 : b < 4294967296) :
    sum 0 0 [a / 16777216 % 256, a / 65536 % 256, a / 256 % 256, a % 256, b / 16777216 % 256, b / 65536 % 256, b / 256 % 256, b % 256] = (a, (b + a) % 4294967296) := by
  have e : ∀ x0 x1 x2 x3 y0 y1 y2 y3 : Nat, sum 0 0 [x0, x1, x2, x3, y0, y1, y2, y3] = step [x0, x1, x2, x3, y0, y1, y2, y3] 0 (0, 0) := by
    intros
    unfold sum
    rw [steps_eight _ rfl]
    rfl
  rw [e]
  have e1 : ∀ x0 x1 x2 x3 y0 y1 y2 y3 : Nat, wd [x0, x1, x2, x3, y0, y1, y2, y3] 0 = (((0 * 256 + x0) * 256 + x1) * 256 + x2) * 256 + x3 := fun _ _ _ _ _ _ _ _ => rfl
  have e2 : ∀ x0 x1 x2 x3 y0 y1 y2 y3 : Nat, wd [x0, x1, x2, x3, y0, y1, y2, y3] (0 + 4) = (((0 * 256 + y0) * 256 + y1) * 256 + y2) * 256 + y3 := fun _ _ _ _ _ _ _ _ => rfl
  unfold step
  rw [e1, e2]
  rw [four a h1, four b h2]
  simp only [Nat.zero_add, Nat.add_zero]
  rw [Nat.mod_eq_of_lt h1]

/-- What is left behind k steps. -/
theorem steps_done {l : List Nat} {k : Nat} (h1 : k ≤ steps l) (h2 : l.length ≤ 8 * k) : k = steps l := by unfold steps at *; omega

theorem or_low (m x k : Nat) (h : x < 2 ^ k) : (m * 2 ^ k) ||| x = m * 2 ^ k + x := by
  rw [Nat.mul_comm, ← Nat.two_pow_add_eq_or_of_lt h]
end Go.Proofs.YtkdbenofheffiaaGreat.M8
