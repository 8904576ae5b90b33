/-
  Plain mathematics of a page: numbers written the highest byte first, bytes written over a row, how many bytes cells need, how a page is laid.
-/
import Derived.Test.YtpndkeffkiilpaaVm3
namespace Go.Proofs.Ytpndkeffkiilpaa.M

theorem getD_app (a b : List Nat) {n : Nat} (h : n < a.length) : (a ++ b).getD n 0 = a.getD n 0 := by
  rw [List.getD_eq_getElem?_getD, List.getElem?_append_left h, ← List.getD_eq_getElem?_getD]
theorem getD_app_right (a b : List Nat) {n : Nat} (h : a.length ≤ n) : (a ++ b).getD n 0 = b.getD (n - a.length) 0 := by
  rw [List.getD_eq_getElem?_getD, List.getElem?_append_right h, ← List.getD_eq_getElem?_getD]

theorem getD_drop (l : List Nat) (k d : Nat) : (l.drop k).getD d 0 = l.getD (k + d) 0 := by
  rw [List.getD_eq_getElem?_getD, List.getElem?_drop, ← List.getD_eq_getElem?_getD]
theorem getD_take (l : List Nat) {k d : Nat} (h : d < k) : (l.take k).getD d 0 = l.getD d 0 := by
  rw [List.getD_eq_getElem?_getD, List.getElem?_take, if_pos h, ← List.getD_eq_getElem?_getD]

/-- A number's k lowest bytes, the highest first. -/
def be : Nat → Nat → List Nat
  | 0, _ => []
  | k + 1, n => n / 256 ^ k % 256 :: be k n

theorem be_length : ∀ (k n : Nat), (be k n).length = k
  | 0, _ => rfl
  | k + 1, n => by show (be k n).length + 1 = _; rw [be_length k n]
theorem be_lt : ∀ (k n : Nat), ∀ x ∈ be k n, x < 256
  | 0, _ => fun x h => by cases h
  | k + 1, n => fun x h => by
    rcases List.mem_cons.1 h with rfl | h
    · exact Nat.mod_lt _ (by decide)
    · exact be_lt k n x h

/-- The number that bytes spell, the highest first, behind a number already read. -/
def nv : Nat → List Nat → Nat
  | a, [] => a
  | a, x :: l => nv (a * 256 + x) l

theorem nv_be : ∀ (k a n : Nat), nv a (be k n) = a * 256 ^ k + n % 256 ^ k
  | 0, a, n => by show a = _; rw [Nat.pow_zero, Nat.mod_one]; omega
  | k + 1, a, n => by
    show nv (a * 256 + n / 256 ^ k % 256) (be k n) = _
    rw [nv_be k, Nat.pow_succ, Nat.mod_mul, Nat.add_mul, Nat.mul_assoc, Nat.mul_comm 256 (256 ^ k), Nat.mul_comm (n / 256 ^ k % 256)]
    omega
theorem nv_snoc : ∀ (l : List Nat) (a x : Nat), nv a (l ++ [x]) = nv a l * 256 + x
  | [], _, _ => rfl
  | y :: l, a, x => nv_snoc l (a * 256 + y) x
theorem nv_lt : ∀ (l : List Nat) (a : Nat), (∀ x ∈ l, x < 256) → nv a l < (a + 1) * 256 ^ l.length
  | [], a, _ => by show a < _; simp
  | x :: l, a, h => by
    have h1 := nv_lt l (a * 256 + x) (fun y hy => h y (List.mem_cons_of_mem _ hy))
    have hx := h x (List.mem_cons_self ..)
    show nv (a * 256 + x) l < _
    rw [List.length_cons, Nat.pow_succ, Nat.mul_comm (256 ^ l.length) 256, ← Nat.mul_assoc]
    exact Nat.lt_of_lt_of_le h1 (Nat.mul_le_mul_right _ (by omega))

/-- Bytes written over a row from a place on. -/
def upd (f : Nat → Nat) (q : Nat) (b : List Nat) : Nat → Nat := fun i => if q ≤ i ∧ i < q + b.length then b.getD (i - q) 0 else f i

theorem upd_in (f : Nat → Nat) (q : Nat) (b : List Nat) {i : Nat} (h1 : q ≤ i) (h2 : i < q + b.length) : upd f q b i = b.getD (i - q) 0 := by unfold upd; rw [if_pos ⟨h1, h2⟩]
theorem upd_out (f : Nat → Nat) (q : Nat) (b : List Nat) {i : Nat} (h : i < q ∨ q + b.length ≤ i) : upd f q b i = f i := by unfold upd; rw [if_neg (by omega)]
theorem upd_nil (f : Nat → Nat) (q : Nat) : upd f q [] = f := funext fun i => upd_out f q [] (by simp; omega)
theorem upd_append (f : Nat → Nat) (q : Nat) (b c : List Nat) : upd (upd f (q + b.length) c) q b = upd f q (b ++ c) := by
  funext i
  by_cases h1 : q ≤ i ∧ i < q + b.length
  · rw [upd_in _ q b h1.1 h1.2, upd_in f q (b ++ c) h1.1 (by rw [List.length_append]; omega), getD_app _ _ (by omega)]
  · rw [upd_out _ q b (by omega)]
    by_cases h2 : q + b.length ≤ i ∧ i < q + b.length + c.length
    · rw [upd_in _ _ c h2.1 h2.2, upd_in f q (b ++ c) (by omega) (by rw [List.length_append]; omega), getD_app_right _ _ (by omega)]
      congr 1
      omega
    · rw [upd_out _ _ c (by omega), upd_out f q (b ++ c) (by rw [List.length_append]; omega)]
theorem upd_snoc (f : Nat → Nat) (q : Nat) (b : List Nat) (x : Nat) : upd (upd f q b) (q + b.length) [x] = upd f q (b ++ [x]) := by
  funext i
  by_cases h1 : q ≤ i ∧ i < q + b.length
  · rw [upd_out _ _ [x] (by omega), upd_in f q b h1.1 h1.2, upd_in f q (b ++ [x]) h1.1 (by simp; omega), getD_app _ _ (by omega)]
  · by_cases h2 : i = q + b.length
    · rw [upd_in _ _ [x] (by omega) (by simp; omega), upd_in f q (b ++ [x]) (by omega) (by simp; omega), getD_app_right _ _ (by omega)]
      congr 1
      omega
    · rw [upd_out _ _ [x] (by simp; omega), upd_out f q b (by omega), upd_out f q (b ++ [x]) (by simp; omega)]
theorem upd_be (f : Nat → Nat) (q k n : Nat) : upd (upd f (q + 1) (be k n)) q [n / 256 ^ k % 256] = upd f q (be (k + 1) n) := upd_append f q [n / 256 ^ k % 256] (be k n)
theorem upd_two (f : Nat → Nat) (q n : Nat) : upd (upd f q [n / 256 % 256]) (q + 1) [n % 256] = upd f q (be 2 n) := by
  have := upd_snoc f q [n / 256 % 256] (n % 256)
  simp only [List.length_singleton, List.singleton_append] at this
  rw [this]
  simp [be]

/-- A page's bytes. -/
def pg (f : Nat → Nat) : List Nat := (List.range 512).map f
theorem pg_length (f : Nat → Nat) : (pg f).length = 512 := by simp [pg]
theorem pg_getD (f : Nat → Nat) {i : Nat} (h : i < 512) : (pg f).getD i 0 = f i := by simp [pg, List.getD_eq_getElem?_getD, h]
theorem pg_set (f : Nat → Nat) (q x : Nat) : (pg f).set q x = pg (upd f q [x]) := by
  apply eq_of_getD
  · simp [pg]
  · intro j hj
    rw [pg_length] at hj
    rw [pg_getD _ hj, List.getD_eq_getElem?_getD, List.getElem?_set]
    by_cases h : q = j
    · subst h
      rw [if_pos rfl, if_pos (by rw [pg_length]; exact hj), upd_in f q [x] (Nat.le_refl _) (by simp), Nat.sub_self]
      rfl
    · rw [if_neg h, upd_out f q [x] (by simp; omega), ← List.getD_eq_getElem?_getD, pg_getD _ hj]
theorem pg_splice (f : Nat → Nat) (q : Nat) (b : List Nat) (h : q + b.length ≤ 512) : (pg f).take q ++ b ++ (pg f).drop (q + b.length) = pg (upd f q b) := by
  apply eq_of_getD
  · simp [pg]; omega
  · intro j hj
    rw [pg_length] at hj
    have hl : ((pg f).take q).length = q := by rw [List.length_take, pg_length]; omega
    rw [pg_getD _ hj, List.append_assoc]
    by_cases h1 : j < q
    · rw [getD_app _ _ (by omega), upd_out f q b (by omega), List.getD_eq_getElem?_getD, List.getElem?_take, if_pos h1, ← List.getD_eq_getElem?_getD, pg_getD _ hj]
    · rw [getD_app_right _ _ (by omega), hl]
      by_cases h2 : j < q + b.length
      · rw [getD_app _ _ (by omega), upd_in f q b (by omega) h2]
      · rw [getD_app_right _ _ (by omega), upd_out f q b (by omega), List.getD_eq_getElem?_getD, List.getElem?_drop, show q + b.length + (j - q - b.length) = j by omega, ← List.getD_eq_getElem?_getD, pg_getD _ hj]
theorem pg_lt {f : Nat → Nat} (h : ∀ i, f i < 256) : ∀ x ∈ pg f, x < 256 := by
  intro x hx
  obtain ⟨i, _, rfl⟩ := List.mem_map.1 hx
  exact h i
theorem upd_lt {f : Nat → Nat} (h : ∀ i, f i < 256) (q : Nat) {b : List Nat} (hb : ∀ x ∈ b, x < 256) : ∀ i, upd f q b i < 256 := by
  intro i
  by_cases h1 : q ≤ i ∧ i < q + b.length
  · rw [upd_in f q b h1.1 h1.2]
    have hlt : i - q < b.length := by omega
    rw [List.getD_eq_getElem?_getD, List.getElem?_eq_getElem hlt]
    exact hb _ (List.getElem_mem hlt)
  · rw [upd_out f q b (by omega)]; exact h i

/-- How many bytes a cell has on a page; cells together; with their places. -/
def body (c : List Nat) : Nat := size c.length + c.length
def bodies : List (List Nat) → Nat
  | [] => 0
  | c :: L => body c + bodies L
def need : List (List Nat) → Nat
  | [] => 0
  | c :: L => 2 + body c + need L
theorem need_bodies : ∀ L, need L = bodies L + 2 * L.length
  | [] => rfl
  | c :: L => by show 2 + body c + need L = body c + bodies L + 2 * (L.length + 1); rw [need_bodies L]; omega
theorem need_append : ∀ (L K : List (List Nat)), need (L ++ K) = need L + need K
  | [], K => by show need K = 0 + need K; omega
  | c :: L, K => by show 2 + body c + need (L ++ K) = 2 + body c + need L + need K; rw [need_append L K]; omega
/-- All bytes of cells. -/
def sumlen : List (List Nat) → Nat
  | [] => 0
  | c :: L => c.length + sumlen L
theorem need_le : ∀ L, need L ≤ sumlen L + 11 * L.length
  | [] => by decide
  | c :: L => by
    show 2 + body c + need L ≤ c.length + sumlen L + 11 * (L.length + 1)
    have := need_le L
    have := size_le c.length
    unfold body
    omega
theorem drop_cons {α : Type} (L : List α) (d : α) {k : Nat} (h : k < L.length) : L.drop k = L.getD k d :: L.drop (k + 1) := by
  rw [List.getD_eq_getElem?_getD, List.getElem?_eq_getElem h]; simp
theorem need_drop (L : List (List Nat)) {k : Nat} (h : k < L.length) : need (L.drop k) = 2 + body (L.getD k []) + need (L.drop (k + 1)) := by rw [drop_cons L [] h]; rfl
theorem bodies_drop (L : List (List Nat)) {k : Nat} (h : k < L.length) : bodies (L.drop k) = body (L.getD k []) + bodies (L.drop (k + 1)) := by rw [drop_cons L [] h]; rfl
theorem sumlen_drop (L : List (List Nat)) {k : Nat} (h : k < L.length) : sumlen (L.drop k) = (L.getD k []).length + sumlen (L.drop (k + 1)) := by rw [drop_cons L [] h]; rfl

/-- How many bytes are left. -/
def room (L : List (List Nat)) : Int := 505 - (need L : Int)

/-- Cells laid one ahead of the other, their places one behind the other. -/
def lay : (Nat → Nat) → Nat → Nat → List (List Nat) → (Nat → Nat)
  | f, _, _, [] => f
  | f, s, p, c :: L => lay (upd (upd f (p - body c) (bytes c.length ++ c)) s (be 2 (p - body c))) (s + 2) (p - body c) L
def head (kind next n : Nat) : Nat → Nat := upd (upd (upd (fun _ => 0) 0 [kind]) 1 (be 2 n)) 3 (be 4 next)
def page (kind next : Nat) (L : List (List Nat)) : Nat → Nat := lay (head kind next L.length) 7 512 L
theorem lay_drop (f : Nat → Nat) (s p : Nat) (L : List (List Nat)) {k : Nat} (h : k < L.length) :
    lay f s p (L.drop k) = lay (upd (upd f (p - body (L.getD k [])) (bytes (L.getD k []).length ++ L.getD k [])) s (be 2 (p - body (L.getD k [])))) (s + 2) (p - body (L.getD k [])) (L.drop (k + 1)) := by rw [drop_cons L [] h]; rfl
theorem head_lt (kind next n : Nat) (hk : kind < 256) : ∀ i, head kind next n i < 256 :=
  upd_lt (upd_lt (upd_lt (fun _ => by decide) 0 (by simpa using hk)) 1 (be_lt _ _)) 3 (be_lt _ _)
theorem lay_lt : ∀ (L : List (List Nat)) (f : Nat → Nat) (s p : Nat), (∀ i, f i < 256) → (∀ c ∈ L, ∀ x ∈ c, x < 256) → ∀ i, lay f s p L i < 256
  | [], _, _, _, hf, _ => hf
  | c :: L, f, s, p, hf, hL => by
    refine lay_lt L _ _ _ (upd_lt (upd_lt hf _ fun x hx => ?_) _ (be_lt _ _)) (fun d hd => hL d (List.mem_cons_of_mem _ hd))
    rcases List.mem_append.1 hx with h | h
    · exact bytes_lt _ x h
    · exact hL c (List.mem_cons_self ..) x h
theorem page_lt (kind next : Nat) (L : List (List Nat)) (hk : kind < 256) (hL : ∀ c ∈ L, ∀ x ∈ c, x < 256) : ∀ i, page kind next L i < 256 := lay_lt L _ _ _ (head_lt _ _ _ hk) hL
theorem page_nil (kind next : Nat) : page kind next [] = head kind next 0 := rfl
end Go.Proofs.Ytpndkeffkiilpaa.M
