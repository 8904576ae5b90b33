/-
  Plain mathematics of records: no program here. A value's type and bytes, the record of values, and what is read back.
-/
import Derived.Test.YtdoahehiocmonaaVm2
import Derived.Test.YtdoahehiocmonaaVm3
import Derived.WalkKit
namespace Go.Proofs.Ytdoahehiocmonaa.M

/-- A value by the document. -/
def Ok (k n : Int) (s : ByteArray) : Prop := (k = 0 ∧ n = 0 ∧ s.size = 0) ∨ (k = 1 ∧ s.size = 0) ∨ ((k = 2 ∨ k = 3) ∧ n = 0 ∧ s.size ≤ 4096)
instance (k n : Int) (s : ByteArray) : Decidable (Ok k n s) := by unfold Ok; infer_instance

/-- What an int64 holds. -/
def R (n : Int) : Prop := -9223372036854775808 ≤ n ∧ n ≤ 9223372036854775807
instance (n : Int) : Decidable (R n) := by unfold R; infer_instance

theorem toList_nil {s : ByteArray} (h : s.size = 0) : s.toList = [] := by
  rw [ByteArray.toList_eq]
  have : s.data.toList.length = 0 := by cases s; exact h
  exact List.eq_nil_of_length_eq_zero this
theorem toList_length (s : ByteArray) : s.toList.length = s.size := by
  rw [ByteArray.toList_eq]; cases s; rfl
theorem toList_inj {s t : ByteArray} (h : s.toList = t.toList) : s = t := by
  rw [ByteArray.toList_eq, ByteArray.toList_eq] at h
  cases s; cases t; simp at h; simp [h]
theorem isEmpty_size (s : ByteArray) : s.toList.isEmpty = decide (s.size = 0) := by
  rw [← toList_length]
  cases s.toList <;> simp
theorem toList_nil_iff (s : ByteArray) : s.toList = [] ↔ s = ByteArray.empty := by
  constructor
  · intro h; exact toList_inj (h.trans (toList_nil rfl).symm)
  · rintro rfl; exact toList_nil rfl

/-- A value: its kind, its number, its bytes. -/
abbrev V3 := Int × Int × ByteArray
def OkV (x : V3) : Prop := Ok x.1 x.2.1 x.2.2 ∧ R x.2.1

/-- A string's bytes as numbers, and back. -/
def bl (s : ByteArray) : List Nat := s.data.toList.map UInt8.toNat
def ba (l : List Nat) : ByteArray := ⟨(l.map UInt8.ofNat).toArray⟩

theorem bl_length (s : ByteArray) : (bl s).length = s.size := by
  unfold bl; rw [List.length_map, Array.length_toList]; rfl
theorem ba_size (l : List Nat) : (ba l).size = l.length := by simp [ba, ByteArray.size]
theorem bl_lt (s : ByteArray) : ∀ x ∈ bl s, x < 256 := by
  intro x h
  obtain ⟨b, _, rfl⟩ := List.mem_map.1 h
  exact b.toNat_lt
theorem ba_bl (s : ByteArray) : ba (bl s) = s := by
  cases s with
  | mk d =>
    unfold ba bl
    simp [Function.comp_def]
theorem bl_ba (l : List Nat) (h : ∀ x ∈ l, x < 256) : bl (ba l) = l := by
  unfold ba bl
  simp only [List.map_map]
  conv => rhs; rw [← List.map_id l]
  apply List.map_congr_left
  intro x hx
  simp
  exact h x hx
theorem ba_nil {s : ByteArray} (h : s.size = 0) : s = ⟨#[]⟩ := by
  rw [← ba_bl s, List.eq_nil_of_length_eq_zero (l := bl s) (by rw [bl_length, h])]
  rfl

/-- An integer's type; how many bytes it has; a value's type. -/
def tyI (n : Int) : Nat := if n = 0 then 5 else if n = 1 then 6 else if -128 ≤ n ∧ n < 128 then 1 else if -32768 ≤ n ∧ n < 32768 then 2 else if -2147483648 ≤ n ∧ n < 2147483648 then 3 else 4
def isz (t : Nat) : Nat := if t = 1 then 1 else if t = 2 then 2 else if t = 3 then 4 else if t = 4 then 8 else 0
def typ (x : V3) : Nat := if x.1 = 1 then tyI x.2.1 else if x.1 = 2 then 13 + 2 * x.2.2.size else if x.1 = 3 then 12 + 2 * x.2.2.size else 0

theorem tyI_cases (n : Int) : (n = 0 ∧ tyI n = 5) ∨ (n = 1 ∧ tyI n = 6) ∨ (-128 ≤ n ∧ n < 128 ∧ n ≠ 0 ∧ n ≠ 1 ∧ tyI n = 1) ∨ (-32768 ≤ n ∧ n < 32768 ∧ ¬ (-128 ≤ n ∧ n < 128) ∧ tyI n = 2) ∨ (-2147483648 ≤ n ∧ n < 2147483648 ∧ ¬ (-32768 ≤ n ∧ n < 32768) ∧ tyI n = 3) ∨ (¬ (-2147483648 ≤ n ∧ n < 2147483648) ∧ tyI n = 4) := by
  unfold tyI
  repeat' split
  all_goals omega

/-- The lowest c bytes of a number, the highest first. -/
def be : Nat → Int → List Nat
  | 0, _ => []
  | c + 1, n => (n / 256 ^ c % 256).toNat :: be c n

theorem be_length (c : Nat) (n : Int) : (be c n).length = c := by
  induction c with
  | zero => rfl
  | succ c ih => simp [be, ih]
theorem be_lt (c : Nat) (n : Int) : ∀ x ∈ be c n, x < 256 := by
  induction c with
  | zero => intro x h; cases h
  | succ c ih =>
    intro x h
    rw [be] at h
    rcases List.mem_cons.1 h with rfl | h
    · omega
    · exact ih x h

/-- What bytes spell, and as two's complement. -/
def nv (l : List Nat) : Nat := l.foldl (fun a y => a * 256 + y) 0
def fi (a : Int) (l : List Nat) : Int := l.foldl (fun (a : Int) (y : Nat) => a * 256 + (y : Int)) a
def sgn : List Nat → Int
  | [] => 0
  | x :: r => fi (if x < 128 then (x : Int) else (x : Int) - 256) r

theorem fi_mul (l : List Nat) : ∀ a : Int, fi a l = a * 256 ^ l.length + fi 0 l := by
  induction l with
  | nil => intro a; simp [fi]
  | cons y r ih =>
    intro a
    have e : ∀ b : Int, fi b (y :: r) = fi (b * 256 + y) r := fun _ => rfl
    rw [e, e, ih, ih (0 * 256 + (y : Int)), List.length_cons, Int.pow_succ, Int.add_mul, Int.zero_mul, Int.zero_add, Int.mul_assoc, Int.mul_comm 256, Int.add_assoc]

theorem fi_pos (l : List Nat) (h : ∀ x ∈ l, x < 256) : 0 ≤ fi 0 l ∧ fi 0 l < 256 ^ l.length := by
  induction l with
  | nil => simp [fi]
  | cons y r ih =>
    have e : fi 0 (y :: r) = fi (0 * 256 + y) r := rfl
    obtain ⟨h0, h1⟩ := ih (fun x hx => h x (by simp [hx]))
    have hy := h y (by simp)
    rw [e, fi_mul, List.length_cons, Int.pow_succ]
    generalize (256 : Int) ^ r.length = q at *
    have hq : 0 < q := by omega
    have g1 : (0 : Int) ≤ (y : Int) * q := Int.mul_nonneg (by omega) (by omega)
    have g2 : ((y : Int) + 1) * q ≤ 256 * q := Int.mul_le_mul_of_nonneg_right (by omega) (by omega)
    rw [Int.add_mul, Int.one_mul] at g2
    rw [Int.zero_mul, Int.zero_add]
    constructor <;> omega

theorem fi_nv (l : List Nat) : ∀ a : Nat, fi (a : Int) l = ((l.foldl (fun a y => a * 256 + y) a : Nat) : Int) := by
  induction l with
  | nil => intro a; rfl
  | cons y r ih =>
    intro a
    show fi ((a : Int) * 256 + y) r = ((r.foldl (fun a y => a * 256 + y) (a * 256 + y) : Nat) : Int)
    rw [← ih]
    congr 1

theorem fi_be (c : Nat) (n : Int) : fi 0 (be c n) = n % 256 ^ c := by
  induction c with
  | zero => simp [be, fi, Int.emod_one]
  | succ c ih =>
    have e : fi 0 (be (c + 1) n) = fi (0 * 256 + (((n / 256 ^ c % 256).toNat : Nat) : Int)) (be c n) := rfl
    have hx : (((n / 256 ^ c % 256).toNat : Nat) : Int) = n / 256 ^ c % 256 := by omega
    rw [e, fi_mul, ih, be_length, hx, Int.pow_succ, Int.zero_mul, Int.zero_add]
    have hq : (0 : Int) < 256 ^ c := Int.pow_pos (by omega)
    generalize (256 : Int) ^ c = q at *
    have h1 := Int.emod_add_mul_ediv n (q * 256)
    have h2 := Int.emod_add_mul_ediv n q
    have h3 : n / q / 256 = n / (q * 256) := Int.ediv_ediv_of_nonneg (by omega)
    have h4 := Int.emod_add_mul_ediv (n / q) 256
    rw [h3] at h4
    generalize n / (q * 256) = A at *
    generalize n / q % 256 = B at *
    generalize n % q = C at *
    generalize n % (q * 256) = D at *
    have h5 : q * (n / q) = q * B + q * (256 * A) := by rw [← h4, Int.mul_add]
    rw [Int.mul_comm B q]
    rw [Int.mul_assoc] at h1
    generalize q * (256 * A) = X at *
    generalize q * B = Y at *
    omega

theorem sgn_be (c : Nat) (n : Int) (h0 : -(128 * 256 ^ c) ≤ n) (h1 : n < 128 * 256 ^ c) : sgn (be (c + 1) n) = n := by
  have hq : (0 : Int) < 256 ^ c := Int.pow_pos (by omega)
  have e : sgn (be (c + 1) n) = fi (if (n / 256 ^ c % 256).toNat < 128 then (((n / 256 ^ c % 256).toNat : Nat) : Int) else (((n / 256 ^ c % 256).toNat : Nat) : Int) - 256) (be c n) := rfl
  have hd := Int.emod_add_mul_ediv n (256 ^ c)
  have a0 : -128 ≤ n / 256 ^ c := (Int.le_ediv_iff_mul_le hq).2 (by omega)
  have a1 : n / 256 ^ c < 128 := (Int.ediv_lt_iff_lt_mul hq).2 h1
  rw [e, fi_mul, fi_be, be_length]
  generalize n / 256 ^ c = t at *
  have ht : (if (t % 256).toNat < 128 then (((t % 256).toNat : Nat) : Int) else (((t % 256).toNat : Nat) : Int) - 256) = t := by split <;> omega
  rw [ht, Int.mul_comm]
  omega

theorem be_fi (l : List Nat) (h : ∀ x ∈ l, x < 256) : ∀ q : Int, be l.length (q * 256 ^ l.length + fi 0 l) = l := by
  induction l with
  | nil => intro q; rfl
  | cons y r ih =>
    intro q
    have hy := h y (by simp)
    have hr := fun x (hx : x ∈ r) => h x (by simp [hx])
    obtain ⟨g0, g1⟩ := fi_pos r hr
    have e : fi 0 (y :: r) = fi (0 * 256 + y) r := rfl
    have eN : q * 256 ^ (r.length + 1) + fi 0 (y :: r) = (q * 256 + y) * 256 ^ r.length + fi 0 r := by
      rw [e, fi_mul, Int.pow_succ, Int.zero_mul, Int.zero_add, Int.add_mul, Int.mul_comm ((256 : Int) ^ r.length) 256, ← Int.mul_assoc, Int.add_assoc]
    rw [List.length_cons, eN, be, ih hr]
    have hq : (0 : Int) < 256 ^ r.length := Int.pow_pos (by omega)
    have ed : ((q * 256 + y) * 256 ^ r.length + fi 0 r) / 256 ^ r.length = q * 256 + y := by
      rw [Int.add_comm, Int.add_mul_ediv_right _ _ (by omega), Int.ediv_eq_zero_of_lt g0 g1, Int.zero_add]
    rw [ed]
    congr 1
    omega

theorem be_sgn (l : List Nat) (h : ∀ x ∈ l, x < 256) : be l.length (sgn l) = l := by
  cases l with
  | nil => rfl
  | cons x r =>
    have e : sgn (x :: r) = (if x < 128 then (0 : Int) else -1) * 256 ^ (x :: r).length + fi 0 (x :: r) := by
      have e1 : fi 0 (x :: r) = fi (0 * 256 + x) r := rfl
      show fi _ r = _
      rw [e1, fi_mul r (0 * 256 + _), fi_mul r (if x < 128 then (x : Int) else (x : Int) - 256), List.length_cons, Int.pow_succ, Int.zero_mul, Int.zero_add]
      split
      · omega
      · rw [Int.sub_mul, Int.mul_comm ((256 : Int) ^ r.length) 256]; omega
    rw [e]
    exact be_fi (x :: r) h _

theorem sgn_range (x : Nat) (r : List Nat) (hx : x < 256) (h : ∀ y ∈ r, y < 256) : -(128 * 256 ^ r.length) ≤ sgn (x :: r) ∧ sgn (x :: r) < 128 * 256 ^ r.length := by
  obtain ⟨g0, g1⟩ := fi_pos r h
  show _ ≤ fi _ r ∧ fi _ r < _
  rw [fi_mul]
  have hs : -128 ≤ (if x < 128 then (x : Int) else (x : Int) - 256) ∧ (if x < 128 then (x : Int) else (x : Int) - 256) ≤ 127 := by split <;> omega
  generalize (if x < 128 then (x : Int) else (x : Int) - 256) = s at *
  generalize (256 : Int) ^ r.length = q at *
  have a : (-128) * q ≤ s * q := Int.mul_le_mul_of_nonneg_right hs.1 (by omega)
  have b : s * q ≤ 127 * q := Int.mul_le_mul_of_nonneg_right hs.2 (by omega)
  constructor <;> omega

theorem sgn_R (l : List Nat) (h : ∀ x ∈ l, x < 256) (h8 : l.length ≤ 8) : R (sgn l) := by
  cases l with
  | nil => exact ⟨by decide, by decide⟩
  | cons x r =>
    obtain ⟨a, b⟩ := sgn_range x r (h x (by simp)) (fun y hy => h y (by simp [hy]))
    have hp : (256 : Int) ^ r.length ≤ 72057594037927936 := by
      have hl : r.length ≤ 7 := by simpa using h8
      have := Nat.pow_le_pow_right (n := 256) (by omega) hl
      have e : ((256 ^ r.length : Nat) : Int) = (256 : Int) ^ r.length := by simp
      rw [← e]
      omega
    generalize (256 : Int) ^ r.length = q at *
    exact ⟨by omega, by omega⟩

theorem sgn_next (l : List Nat) (k : Nat) (_h1 : 1 ≤ k) (h : k < l.length) : sgn (l.take (k + 1)) = sgn (l.take k) * 256 + ((l.getD k 0 : Nat) : Int) := by
  cases l with
  | nil => simp at h
  | cons x r =>
    obtain ⟨j, rfl⟩ : ∃ j, k = j + 1 := ⟨k - 1, by omega⟩
    have hj : j < r.length := by simpa using h
    simp only [List.take_succ_cons, sgn, fi]
    rw [List.take_succ_eq_append_getElem hj, List.foldl_append]
    simp [List.getD_eq_getElem?_getD, hj]

/-- A value's bytes; what a record is made of. -/
def body (x : V3) : List Nat := if x.1 = 1 then be (isz (tyI x.2.1)) x.2.1 else bl x.2.2
def heads (l : List V3) : List Nat := (l.map fun x => bytes (typ x)).flatten
def bodies (l : List V3) : List Nat := (l.map body).flatten
def record (l : List V3) : List Nat := bytes l.length ++ (heads l ++ bodies l)

theorem body_lt (x : V3) : ∀ y ∈ body x, y < 256 := by
  unfold body; split
  · exact be_lt _ _
  · exact bl_lt _
theorem heads_lt (l : List V3) : ∀ y ∈ heads l, y < 256 := by
  intro y h
  obtain ⟨b, hb, hy⟩ := List.mem_flatten.1 h
  obtain ⟨x, _, rfl⟩ := List.mem_map.1 hb
  exact bytes_lt _ y hy
theorem bodies_lt (l : List V3) : ∀ y ∈ bodies l, y < 256 := by
  intro y h
  obtain ⟨b, hb, hy⟩ := List.mem_flatten.1 h
  obtain ⟨x, _, rfl⟩ := List.mem_map.1 hb
  exact body_lt _ y hy
theorem record_lt (l : List V3) : ∀ y ∈ record l, y < 256 := by
  intro y h
  rcases List.mem_append.1 h with h | h
  · exact bytes_lt _ y h
  · rcases List.mem_append.1 h with h | h
    · exact heads_lt l y h
    · exact bodies_lt l y h

/-- One varint, and what stands behind. -/
def num1 (b : List Nat) : Option (Nat × List Nat) := if (get b).2.2 = 0 then some ((get b).1, b.drop (get b).2.1) else none

theorem num1_bytes (n : Nat) (hn : n < 18446744073709551616) (r : List Nat) : num1 (bytes n ++ r) = some (n, r) := by
  unfold num1
  rw [get_bytes n hn r, if_pos rfl, ← bytes_length, List.drop_left]
theorem num1_ok {b : List Nat} (hl : ∀ x ∈ b, x < 256) {n : Nat} {r : List Nat} (h : num1 b = some (n, r)) : b = bytes n ++ r ∧ n < 18446744073709551616 := by
  unfold num1 at h
  split at h
  · rename_i h0
    obtain ⟨rfl, rfl⟩ := by simpa using h
    obtain ⟨_, _, e⟩ := get_ok b hl h0
    exact ⟨by rw [e, List.take_append_drop], get_lt b hl⟩
  · cases h

/-- So many varints. -/
def rdT : Nat → List Nat → Option (List Nat × List Nat)
  | 0, b => some ([], b)
  | c + 1, b => (num1 b).bind fun p => (rdT c p.2).map fun q => (p.1 :: q.1, q.2)

theorem rdT_bytes (ts : List Nat) (h : ∀ t ∈ ts, t < 18446744073709551616) (r : List Nat) : rdT ts.length ((ts.map bytes).flatten ++ r) = some (ts, r) := by
  induction ts with
  | nil => rfl
  | cons t ts ih =>
    rw [List.length_cons, List.map_cons, List.flatten_cons, List.append_assoc, rdT, num1_bytes t (h t (by simp))]
    simp [ih (fun x hx => h x (by simp [hx]))]
theorem rdT_ok (c : Nat) : ∀ {b ts r : List Nat}, (∀ x ∈ b, x < 256) → rdT c b = some (ts, r) → ts.length = c ∧ b = (ts.map bytes).flatten ++ r ∧ ∀ t ∈ ts, t < 18446744073709551616 := by
  induction c with
  | zero =>
    intro b ts r _ h
    obtain ⟨rfl, rfl⟩ := by simpa [rdT] using h
    simp
  | succ c ih =>
    intro b ts r hl h
    rw [rdT] at h
    cases hn : num1 b with
    | none => rw [hn] at h; cases h
    | some p =>
      obtain ⟨t, b'⟩ := p
      obtain ⟨rfl, ht⟩ := num1_ok hl hn
      rw [hn] at h
      simp only [Option.bind_some, Option.map_eq_some_iff] at h
      obtain ⟨⟨ts', r'⟩, h1, h2⟩ := h
      obtain ⟨rfl, rfl⟩ := by simpa using h2
      obtain ⟨rfl, rfl, h3⟩ := ih (fun x hx => hl x (by simp [hx])) h1
      refine ⟨by simp, by simp, ?_⟩
      intro y hy
      rcases List.mem_cons.1 hy with rfl | hy
      · exact ht
      · exact h3 y hy

/-- How many bytes a value of a type has. -/
def tsz (t : Nat) : Option Nat := if t = 0 ∨ t = 5 ∨ t = 6 then some 0 else if t = 1 then some 1 else if t = 2 then some 2 else if t = 3 then some 4 else if t = 4 then some 8 else if t < 12 ∨ 8205 < t then none else some ((t - 12) / 2)

/-- The value of a type with these bytes. -/
def fromB (t : Nat) (l : List Nat) : V3 := if t = 0 then (0, 0, ⟨#[]⟩) else if t = 6 then (1, 1, ⟨#[]⟩) else if t < 12 then (1, sgn l, ⟨#[]⟩) else if t % 2 = 1 then (2, 0, ba l) else (3, 0, ba l)

/-- One value, as the program reads it and as the reference does. -/
def rdV1 (t : Nat) (b : List Nat) : Option (V3 × List Nat) := (tsz t).bind fun s => if s ≤ b.length ∧ typ (fromB t (b.take s)) = t then some (fromB t (b.take s), b.drop s) else none
def rdW1 (t : Nat) (b : List Nat) : Option (V3 × List Nat) := (tsz t).bind fun s => if s ≤ b.length then some (fromB t (b.take s), b.drop s) else none

theorem tsz_isz (t : Nat) : tsz t = if t < 7 then some (isz t) else if t < 12 ∨ 8205 < t then none else some ((t - 12) / 2) := by
  unfold tsz isz
  by_cases h : t < 7
  · have : t = 0 ∨ t = 1 ∨ t = 2 ∨ t = 3 ∨ t = 4 ∨ t = 5 ∨ t = 6 := by omega
    rcases this with rfl | rfl | rfl | rfl | rfl | rfl | rfl <;> rfl
  · rw [if_neg (by omega), if_neg (by omega), if_neg (by omega), if_neg (by omega), if_neg (by omega), if_neg h]

theorem isz_le (t : Nat) : isz t ≤ 8 := by unfold isz; repeat' split
                                           all_goals omega

theorem rdV1_body (x : V3) (hx : OkV x) (r : List Nat) : rdV1 (typ x) (body x ++ r) = some (x, r) := by
  obtain ⟨k, n, s⟩ := x
  obtain ⟨h, h64⟩ := hx
  simp only at h h64
  rcases h with ⟨rfl, rfl, hs⟩ | ⟨rfl, hs⟩ | ⟨hk, rfl, hs⟩
  · obtain rfl := ba_nil hs
    rfl
  · obtain rfl := ba_nil hs
    have eb : body (1, n, ⟨#[]⟩) = be (isz (tyI n)) n := rfl
    have et : typ (1, n, ⟨#[]⟩) = tyI n := rfl
    have e7 : tyI n < 7 := by rcases tyI_cases n with h | h | h | h | h | h <;> omega
    have hl : (be (isz (tyI n)) n ++ r).take (isz (tyI n)) = be (isz (tyI n)) n := List.take_left' (be_length _ _)
    have hd : (be (isz (tyI n)) n ++ r).drop (isz (tyI n)) = r := List.drop_left' (be_length _ _)
    have hf : fromB (tyI n) (be (isz (tyI n)) n) = (1, n, ⟨#[]⟩) := by
      obtain ⟨q0, q1⟩ := h64
      rcases tyI_cases n with ⟨h0, h⟩ | ⟨h0, h⟩ | ⟨h0, h1, _, _, h⟩ | ⟨h0, h1, _, h⟩ | ⟨h0, h1, _, h⟩ | ⟨h0, h⟩ <;> rw [h]
      · subst h0; rfl
      · subst h0; rfl
      · show (1, sgn (be (0 + 1) n), _) = _
        rw [sgn_be 0 n (by omega) (by omega)]
      · show (1, sgn (be (1 + 1) n), _) = _
        rw [sgn_be 1 n (by omega) (by omega)]
      · show (1, sgn (be (3 + 1) n), _) = _
        rw [sgn_be 3 n (by omega) (by omega)]
      · show (1, sgn (be (7 + 1) n), _) = _
        rw [sgn_be 7 n (by omega) (by omega)]
    unfold rdV1
    rw [eb, et, tsz_isz, if_pos e7, Option.bind_some, hl, hd, hf, if_pos ⟨by simp [be_length], et⟩]
  · have hl : (bl s ++ r).take s.size = bl s := List.take_left' (bl_length _)
    have hd : (bl s ++ r).drop s.size = r := List.drop_left' (bl_length _)
    have hz : s.size ≤ (bl s ++ r).length := by simp [bl_length]
    rcases hk with rfl | rfl
    · have eb : body (2, 0, s) = bl s := rfl
      have et : typ (2, 0, s) = 13 + 2 * s.size := rfl
      have ef : fromB (13 + 2 * s.size) (bl s) = (2, 0, s) := by
        unfold fromB
        rw [if_neg (by omega), if_neg (by omega), if_neg (by omega), if_pos (by omega), ba_bl]
      have ez : (13 + 2 * s.size - 12) / 2 = s.size := by omega
      unfold rdV1
      rw [eb, et, tsz_isz, if_neg (by omega), if_neg (by omega), Option.bind_some, ez, hl, hd, ef, if_pos ⟨hz, et⟩]
    · have eb : body (3, 0, s) = bl s := rfl
      have et : typ (3, 0, s) = 12 + 2 * s.size := rfl
      have ef : fromB (12 + 2 * s.size) (bl s) = (3, 0, s) := by
        unfold fromB
        rw [if_neg (by omega), if_neg (by omega), if_neg (by omega), if_neg (by omega), ba_bl]
      have ez : (12 + 2 * s.size - 12) / 2 = s.size := by omega
      unfold rdV1
      rw [eb, et, tsz_isz, if_neg (by omega), if_neg (by omega), Option.bind_some, ez, hl, hd, ef, if_pos ⟨hz, et⟩]

/-- What is made of a type and so many bytes is a value. -/
theorem fromB_ok {t s : Nat} (ht : tsz t = some s) {l : List Nat} (hl : ∀ x ∈ l, x < 256) (hs : l.length = s) : OkV (fromB t l) := by
  rw [tsz_isz] at ht
  unfold fromB
  split
  · exact ⟨.inl ⟨rfl, rfl, rfl⟩, by decide, by decide⟩
  · split
    · exact ⟨.inr (.inl ⟨rfl, rfl⟩), by decide, by decide⟩
    · split
      · refine ⟨.inr (.inl ⟨rfl, rfl⟩), sgn_R l hl ?_⟩
        by_cases h7 : t < 7
        · rw [if_pos h7] at ht
          obtain rfl := by simpa using ht
          rw [hs]; exact isz_le t
        · rw [if_neg h7, if_pos (by omega)] at ht
          cases ht
      · rw [if_neg (by omega)] at ht
        split at ht
        · cases ht
        · obtain rfl := by simpa using ht
          split
          · exact ⟨.inr (.inr ⟨.inl rfl, rfl, by show (ba l).size ≤ 4096; rw [ba_size]; omega⟩), (by decide : R 0)⟩
          · exact ⟨.inr (.inr ⟨.inr rfl, rfl, by show (ba l).size ≤ 4096; rw [ba_size]; omega⟩), (by decide : R 0)⟩

theorem fromB_body {t s : Nat} (ht : tsz t = some s) {l : List Nat} (hl : ∀ x ∈ l, x < 256) (hs : l.length = s) (hty : typ (fromB t l) = t) : body (fromB t l) = l := by
  rw [tsz_isz] at ht
  by_cases h7 : t < 7
  · rw [if_pos h7] at ht
    obtain rfl := by simpa using ht
    by_cases h0 : t = 0
    · subst h0
      obtain rfl : l = [] := List.eq_nil_of_length_eq_zero hs
      rfl
    · by_cases h6 : t = 6
      · subst h6
        obtain rfl : l = [] := List.eq_nil_of_length_eq_zero hs
        rfl
      · have ef : fromB t l = (1, sgn l, ⟨#[]⟩) := by unfold fromB; rw [if_neg h0, if_neg h6, if_pos (by omega)]
        rw [ef] at hty ⊢
        have et : tyI (sgn l) = t := hty
        show be (isz (tyI (sgn l))) (sgn l) = l
        rw [et, ← hs]
        exact be_sgn l hl
  · rw [if_neg h7] at ht
    split at ht
    · cases ht
    · rename_i h12
      unfold fromB
      rw [if_neg (by omega), if_neg (by omega), if_neg (by omega)]
      split <;> exact bl_ba l hl

theorem rdV1_ok {t : Nat} {b : List Nat} (hl : ∀ x ∈ b, x < 256) {v : V3} {r : List Nat} (h : rdV1 t b = some (v, r)) : b = body v ++ r ∧ typ v = t ∧ OkV v := by
  unfold rdV1 at h
  cases hs : tsz t with
  | none => rw [hs] at h; cases h
  | some s =>
    rw [hs, Option.bind_some] at h
    split at h
    · rename_i hc
      obtain ⟨rfl, rfl⟩ := by simpa using h
      have hlt := fun x (hx : x ∈ b.take s) => hl x (List.mem_of_mem_take hx)
      have hle : (b.take s).length = s := by rw [List.length_take]; omega
      exact ⟨by rw [fromB_body hs hlt hle hc.2, List.take_append_drop], hc.2, fromB_ok hs hlt hle⟩
    · cases h

theorem rdW1_of {t : Nat} {b : List Nat} {p : V3 × List Nat} (h : rdV1 t b = some p) : rdW1 t b = some p := by
  unfold rdV1 at h
  unfold rdW1
  cases hs : tsz t with
  | none => rw [hs] at h; cases h
  | some s =>
    rw [hs, Option.bind_some] at h
    rw [Option.bind_some]
    split at h
    · rename_i hc
      rw [if_pos hc.1]; exact h
    · cases h

theorem rdW1_ok {t : Nat} {b : List Nat} (hl : ∀ x ∈ b, x < 256) {v : V3} {r : List Nat} (h : rdW1 t b = some (v, r)) : OkV v ∧ ∀ x ∈ r, x < 256 := by
  unfold rdW1 at h
  cases hs : tsz t with
  | none => rw [hs] at h; cases h
  | some s =>
    rw [hs, Option.bind_some] at h
    split at h
    · rename_i hc
      obtain ⟨rfl, rfl⟩ := by simpa using h
      exact ⟨fromB_ok hs (fun x hx => hl x (List.mem_of_mem_take hx)) (by rw [List.length_take]; omega), fun x hx => hl x (List.mem_of_mem_drop hx)⟩
    · cases h

/-- The values of these types. -/
def rdV : List Nat → List Nat → Option (List V3 × List Nat)
  | [], b => some ([], b)
  | t :: ts, b => (rdV1 t b).bind fun p => (rdV ts p.2).map fun q => (p.1 :: q.1, q.2)
def rdW : List Nat → List Nat → Option (List V3 × List Nat)
  | [], b => some ([], b)
  | t :: ts, b => (rdW1 t b).bind fun p => (rdW ts p.2).map fun q => (p.1 :: q.1, q.2)

theorem rdV_bodies (l : List V3) (h : ∀ x ∈ l, OkV x) (r : List Nat) : rdV (l.map typ) (bodies l ++ r) = some (l, r) := by
  induction l with
  | nil => rfl
  | cons x l ih =>
    rw [List.map_cons, rdV, bodies, List.map_cons, List.flatten_cons, List.append_assoc, rdV1_body x (h x (by simp))]
    have := ih (fun y hy => h y (by simp [hy]))
    rw [bodies] at this
    simp [this]

theorem rdV_ok (ts : List Nat) : ∀ {b : List Nat} {l : List V3} {r : List Nat}, (∀ x ∈ b, x < 256) → rdV ts b = some (l, r) → b = bodies l ++ r ∧ l.map typ = ts ∧ ∀ x ∈ l, OkV x := by
  induction ts with
  | nil =>
    intro b l r _ h
    obtain ⟨rfl, rfl⟩ := by simpa [rdV] using h
    exact ⟨rfl, rfl, fun x hx => by cases hx⟩
  | cons t ts ih =>
    intro b l r hl h
    rw [rdV] at h
    cases hn : rdV1 t b with
    | none => rw [hn] at h; cases h
    | some p =>
      obtain ⟨v, b'⟩ := p
      obtain ⟨rfl, rfl, hv⟩ := rdV1_ok hl hn
      rw [hn] at h
      simp only [Option.bind_some, Option.map_eq_some_iff] at h
      obtain ⟨⟨l', r'⟩, h1, h2⟩ := h
      obtain ⟨rfl, rfl⟩ := by simpa using h2
      obtain ⟨rfl, rfl, h3⟩ := ih (fun x hx => hl x (by simp [hx])) h1
      refine ⟨by simp [bodies], rfl, ?_⟩
      intro y hy
      rcases List.mem_cons.1 hy with rfl | hy
      · exact hv
      · exact h3 y hy

theorem rdW_of (ts : List Nat) : ∀ {b : List Nat} {p : List V3 × List Nat}, rdV ts b = some p → rdW ts b = some p := by
  induction ts with
  | nil => intro b p h; exact h
  | cons t ts ih =>
    intro b p h
    rw [rdV] at h
    rw [rdW]
    cases hn : rdV1 t b with
    | none => rw [hn] at h; cases h
    | some q =>
      rw [hn] at h
      rw [rdW1_of hn]
      simp only [Option.bind_some, Option.map_eq_some_iff] at h ⊢
      obtain ⟨q', h1, h2⟩ := h
      exact ⟨q', ih h1, h2⟩

theorem rdW_ok (ts : List Nat) : ∀ {b : List Nat} {l : List V3} {r : List Nat}, (∀ x ∈ b, x < 256) → rdW ts b = some (l, r) → l.length = ts.length ∧ ∀ x ∈ l, OkV x := by
  induction ts with
  | nil =>
    intro b l r _ h
    obtain ⟨rfl, rfl⟩ := by simpa [rdW] using h
    exact ⟨rfl, fun x hx => by cases hx⟩
  | cons t ts ih =>
    intro b l r hl h
    rw [rdW] at h
    cases hn : rdW1 t b with
    | none => rw [hn] at h; cases h
    | some p =>
      obtain ⟨v, b'⟩ := p
      obtain ⟨hv, hb'⟩ := rdW1_ok hl hn
      rw [hn] at h
      simp only [Option.bind_some, Option.map_eq_some_iff] at h
      obtain ⟨⟨l', r'⟩, h1, h2⟩ := h
      obtain ⟨rfl, rfl⟩ := by simpa using h2
      obtain ⟨h3, h4⟩ := ih hb' h1
      refine ⟨by simp [h3], ?_⟩
      intro y hy
      rcases List.mem_cons.1 hy with rfl | hy
      · exact hv
      · exact h4 y hy

/-- A record at the beginning, and what stands behind. -/
def parse (b : List Nat) : Option (List V3 × List Nat) := (num1 b).bind fun p => if p.1 ≤ 17 then (rdT p.1 p.2).bind fun q => rdV q.1 q.2 else none
def parseW (b : List Nat) : Option (List V3 × List Nat) := (num1 b).bind fun p => if p.1 ≤ 17 then (rdT p.1 p.2).bind fun q => rdW q.1 q.2 else none
/-- What Decode tells; what the reference's does. -/
def dec (b : List Nat) : Option (List V3) := (parse b).bind fun p => if p.2 = [] then some p.1 else none
def decW (b : List Nat) : Option (List V3) := (parseW b).bind fun p => if p.2 = [] ∧ record p.1 = b then some p.1 else none

theorem typ_lt (x : V3) (h : OkV x) : typ x < 18446744073709551616 := by
  obtain ⟨k, n, s⟩ := x
  have hs : s.size ≤ 4096 := by rcases h.1 with ⟨_, _, h⟩ | ⟨_, h⟩ | ⟨_, _, h⟩ <;> simp only at h <;> omega
  unfold typ
  rcases tyI_cases n with h | h | h | h | h | h <;> (simp only; repeat' split) <;> omega

theorem heads_eq (l : List V3) : heads l = ((l.map typ).map bytes).flatten := by unfold heads; rw [List.map_map]; rfl

theorem parse_record (l : List V3) (h : ∀ x ∈ l, OkV x) (hl : l.length ≤ 17) (r : List Nat) : parse (record l ++ r) = some (l, r) := by
  have e := rdT_bytes (l.map typ) (fun t ht => by
    obtain ⟨x, hx, rfl⟩ := List.mem_map.1 ht
    exact typ_lt x (h x hx)) (bodies l ++ r)
  rw [List.length_map, ← heads_eq] at e
  unfold parse record
  rw [List.append_assoc, List.append_assoc, num1_bytes _ (by omega), Option.bind_some, if_pos hl, e, Option.bind_some]
  exact rdV_bodies l h r

theorem parse_ok {b : List Nat} (hb : ∀ x ∈ b, x < 256) {l : List V3} {r : List Nat} (h : parse b = some (l, r)) : b = record l ++ r ∧ l.length ≤ 17 ∧ ∀ x ∈ l, OkV x := by
  unfold parse at h
  cases hn : num1 b with
  | none => rw [hn] at h; cases h
  | some p =>
    obtain ⟨n, b1⟩ := p
    obtain ⟨rfl, _⟩ := num1_ok hb hn
    have hb1 := fun x (hx : x ∈ b1) => hb x (by simp [hx])
    rw [hn, Option.bind_some] at h
    split at h
    · rename_i h17
      cases ht : rdT n b1 with
      | none => simp only [ht] at h; cases h
      | some q =>
        obtain ⟨ts, b2⟩ := q
        simp only [ht, Option.bind_some] at h
        obtain ⟨rfl, rfl, _⟩ := rdT_ok n hb1 ht
        obtain ⟨rfl, rfl, h3⟩ := rdV_ok ts (fun x hx => hb1 x (by simp [hx])) h
        rw [List.length_map] at h17 ⊢
        refine ⟨?_, h17, h3⟩
        unfold record
        rw [heads_eq, List.append_assoc, List.append_assoc]
    · cases h

theorem dec_record (l : List V3) (h : ∀ x ∈ l, OkV x) (hl : l.length ≤ 17) : dec (record l) = some l := by
  have := parse_record l h hl []
  rw [List.append_nil] at this
  unfold dec
  rw [this]
  rfl

theorem dec_ok {b : List Nat} (hb : ∀ x ∈ b, x < 256) {l : List V3} (h : dec b = some l) : record l = b ∧ l.length ≤ 17 ∧ ∀ x ∈ l, OkV x := by
  unfold dec at h
  cases hp : parse b with
  | none => rw [hp] at h; cases h
  | some p =>
    obtain ⟨l', r⟩ := p
    rw [hp, Option.bind_some] at h
    split at h
    · rename_i hr
      obtain rfl := by simpa using h
      obtain ⟨h1, h2⟩ := parse_ok hb hp
      simp only at hr
      rw [hr, List.append_nil] at h1
      exact ⟨h1.symm, h2⟩
    · cases h

theorem dec_behind (l : List V3) (h : ∀ x ∈ l, OkV x) (hl : l.length ≤ 17) (x : Nat) : dec (record l ++ [x]) = none := by
  unfold dec
  rw [parse_record l h hl [x]]
  rfl

theorem dec_begin (l : List V3) (h : ∀ x ∈ l, OkV x) (hl : l.length ≤ 17) (k : Nat) (hk : k < (record l).length) : dec ((record l).take k) = none := by
  cases hd : dec ((record l).take k) with
  | none => rfl
  | some m =>
    obtain ⟨h1, h2, h3⟩ := dec_ok (fun x hx => record_lt l x (List.mem_of_mem_take hx)) hd
    have e : record m ++ (record l).drop k = record l ++ [] := by rw [h1, List.take_append_drop, List.append_nil]
    have p1 := parse_record m h3 h2 ((record l).drop k)
    rw [e, parse_record l h hl []] at p1
    have p2 : l = m ∧ (record l).length ≤ k := by simpa using p1
    omega

theorem decW_eq (b : List Nat) (hb : ∀ x ∈ b, x < 256) : decW b = dec b := by
  cases hd : dec b with
  | some l =>
    obtain ⟨h1, h2, h3⟩ := dec_ok hb hd
    have hp := parse_record l h3 h2 []
    rw [List.append_nil, h1] at hp
    have hw : parseW b = some (l, []) := by
      unfold parse at hp
      unfold parseW
      cases hn : num1 b with
      | none => rw [hn] at hp; cases hp
      | some p =>
        rw [hn, Option.bind_some] at hp
        rw [Option.bind_some]
        split at hp
        · rename_i h17
          rw [if_pos h17]
          cases ht : rdT p.1 p.2 with
          | none => rw [ht] at hp; cases hp
          | some q =>
            rw [ht, Option.bind_some] at hp
            rw [Option.bind_some]
            exact rdW_of _ hp
        · cases hp
    unfold decW
    rw [hw, Option.bind_some, if_pos ⟨rfl, h1⟩]
  | none =>
    cases hw : decW b with
    | none => rfl
    | some l =>
      exfalso
      unfold decW at hw
      cases hp : parseW b with
      | none => rw [hp] at hw; cases hw
      | some p =>
        obtain ⟨l', r⟩ := p
        rw [hp, Option.bind_some] at hw
        split at hw
        · rename_i hc
          obtain rfl := by simpa using hw
          have hk : l'.length ≤ 17 ∧ ∀ x ∈ l', OkV x := by
            unfold parseW at hp
            cases hn : num1 b with
            | none => rw [hn] at hp; cases hp
            | some p =>
              obtain ⟨n, b1⟩ := p
              obtain ⟨hb0, _⟩ := num1_ok hb hn
              have hb1 := fun x (hx : x ∈ b1) => hb x (by rw [hb0]; simp [hx])
              rw [hn, Option.bind_some] at hp
              split at hp
              · rename_i h17
                cases ht : rdT n b1 with
                | none => simp only [ht] at hp; cases hp
                | some q =>
                  obtain ⟨ts, b2⟩ := q
                  simp only [ht, Option.bind_some] at hp
                  obtain ⟨h1, hb2, _⟩ := rdT_ok n hb1 ht
                  obtain ⟨h3, h4⟩ := rdW_ok ts (fun x hx => hb1 x (by rw [hb2]; simp [hx])) hp
                  exact ⟨by simp only at h17; omega, h4⟩
              · cases hp
          have := dec_record l' hk.2 hk.1
          rw [show record l' = b from hc.2, hd] at this
          cases this
        · cases hw
end Go.Proofs.Ytdoahehiocmonaa.M
