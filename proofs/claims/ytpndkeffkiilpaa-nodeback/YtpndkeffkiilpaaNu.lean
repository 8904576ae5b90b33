/-
  The contracts of number, take, cellAt and bytes.Clone; what of a page is taken.
-/
import Derived.Test.YtpndkeffkiilpaaPg
namespace Go.Proofs.Ytpndkeffkiilpaa.M
/-- All places from b to below e are free. -/
def free (f : Nat → Bool) (b e : Nat) : Bool := (List.range (e - b)).all fun j => !f (b + j)
theorem free_iff (f : Nat → Bool) (b e : Nat) : free f b e = true ↔ ∀ i, b ≤ i → i < e → f i = false := by
  unfold free
  rw [List.all_eq_true]
  constructor
  · intro h i h1 h2
    have := h (i - b) (List.mem_range.2 (by omega))
    rw [show b + (i - b) = i by omega] at this
    simpa using this
  · intro h j hj
    have := h (b + j) (by omega) (by have := List.mem_range.1 hj; omega)
    simp [this]
theorem free_not {f : Nat → Bool} {b e i : Nat} (h1 : b ≤ i) (h2 : i < e) (h : f i = true) : free f b e = false := by
  cases hf : free f b e with
  | false => rfl
  | true => have := (free_iff f b e).1 hf i h1 h2; rw [h] at this; cases this
/-- These places are taken, too. -/
def mark (f : Nat → Bool) (b e : Nat) : Nat → Bool := fun i => if b ≤ i ∧ i < e then true else f i
theorem mark_nil (f : Nat → Bool) {b e : Nat} (h : e ≤ b) : mark f b e = f := funext fun i => by unfold mark; rw [if_neg (by omega)]
theorem mark_next (f : Nat → Bool) {b k : Nat} (h : b ≤ k) : mark (mark f b k) k (k + 1) = mark f b (k + 1) := by
  funext i
  unfold mark
  by_cases h1 : k ≤ i ∧ i < k + 1
  · rw [if_pos h1, if_pos (by omega)]
  · rw [if_neg h1]
    by_cases h2 : b ≤ i ∧ i < k
    · rw [if_pos h2, if_pos (by omega)]
    · rw [if_neg h2, if_neg (by omega)]
theorem mark_out (f : Nat → Bool) {b k i : Nat} (h : k ≤ i) : mark f b k i = f i := by unfold mark; rw [if_neg (by omega)]
def tg (f : Nat → Bool) : List Bool := (List.range 512).map f
theorem tg_set (f : Nat → Bool) (q : Nat) : (tg f).set q true = tg (mark f q (q + 1)) := by
  apply List.ext_getElem?
  intro j
  rw [List.getElem?_set]
  by_cases hj : j < 512
  · by_cases h : q = j
    · subst h
      simp [tg, hj, mark]
    · rw [if_neg h]
      simp only [tg, List.getElem?_map, List.getElem?_range hj, Option.map_some]
      unfold mark
      rw [if_neg (by omega)]
  · have e1 : (tg f)[j]? = none := List.getElem?_eq_none (by simp [tg]; omega)
    have e2 : (tg (mark f q (q + 1)))[j]? = none := List.getElem?_eq_none (by simp [tg]; omega)
    rw [e1, e2]
    split
    · rw [if_neg (by simp [tg]; omega)]
    · rfl
/-- Where a cell's bytes begin and end. -/
def cellAt (p : List Nat) (q : Nat) : Option (Nat × Nat) :=
  if 512 ≤ q then none else if (get (p.drop q)).2.2 ≠ 0 ∨ 512 - (q + (get (p.drop q)).2.1) < (get (p.drop q)).1 then none else some (q + (get (p.drop q)).2.1, q + (get (p.drop q)).2.1 + (get (p.drop q)).1)
end Go.Proofs.Ytpndkeffkiilpaa.M
namespace Go.Proofs.Ytpndkeffkiilpaa
open Go.RowKit

theorem or_i64 (m : Int) (y : Nat) (hy : y < 256) (h0 : -36028797018963968 ≤ m) (h1 : m < 36028797018963968) : bits .or .i64 (m * 256) (y : Int) = m * 256 + y := by
  have e1 : (BitVec.ofInt 64 (m * 256)).toNat = (m % 72057594037927936).toNat * 256 := by
    rw [BitVec.toNat_ofInt]
    simp only [Nat.reducePow]
    omega
  have e2 : (BitVec.ofInt 64 (y : Int)).toNat = y := by
    rw [BitVec.toNat_ofInt]
    simp only [Nat.reducePow]
    omega
  show IntKind.i64.wrap ((BitVec.ofInt 64 (m * 256) ||| BitVec.ofInt 64 (y : Int)).toNat : Int) = _
  rw [BitVec.toNat_or, e1, e2, show (256 : Nat) = 2 ^ 8 from rfl, M.or_low _ y 8 (by omega)]
  simp only [IntKind.wrap, IntKind.bits, IntKind.signed]
  simp
  omega

theorem Sees.drop1 {w : World} {a : Option Addr} {ca : Nat} {l : List Nat} (h : Sees w (.slice a l.length ca) l) (k : Nat) (hk : k ≤ l.length) : Sees w (.slice (Option.map (fun x => x.add k) a) (l.length - k) (ca - k)) (l.drop k) := by
  obtain ⟨⟨a', c', he, hc⟩, hm⟩ := h
  obtain ⟨rfl, rfl⟩ : a = a' ∧ ca = c' := by simpa using he
  have hl : (l.drop k).length = l.length - k := by simp
  refine ⟨⟨Option.map (fun x => x.add k) a, ca - k, by rw [hl], fun h1 => ?_⟩, by omega⟩
  rw [hl] at h1
  obtain ⟨b, o, rfl, hj⟩ := hc (by omega)
  refine ⟨b, o + k, ?_, fun j hj' => ?_⟩
  · have : (⟨b, o, none⟩ : Addr).add k = ⟨b, o + k, none⟩ := by unfold Addr.add; split <;> simp_all
    rw [Option.map_some, this]
  · rw [hl] at hj'
    rw [Nat.add_assoc, hj (k + j) (by omega)]
    simp [List.getD_eq_getElem?_getD]

theorem Sees.drop0 {w : World} {a : Option Addr} {ca m : Nat} {l : List Nat} (k : Nat) (hk : l.length ≤ k) (hm : m = 0) : Sees w (.slice a m ca) (l.drop k) := by
  have e : l.drop k = [] := List.drop_of_length_le hk
  rw [e]
  subst hm
  exact ⟨⟨a, ca, rfl, fun h => by simp at h⟩, by simp⟩


set_option maxRecDepth 100000 in
set_option maxHeartbeats 400000 in
theorem number_any (v : Value) (l : List Nat) (w : World) (hv : Sees w v l) (hl : ∀ x ∈ l, x < 256) (h4 : l.length ≤ 4) :
    Calls Try.prog 26 #[v] w fun e w' => e = .returned (.int .i64 (M.nv 0 l : Nat)) ∧ w' = w := by
  obtain ⟨⟨a, ca, rfl, ha⟩, hma⟩ := hv
  have HL := Hid.mk' hl
  clear hma hl
  go_enter Try.func26, Try.ntmps26
  go_wp2
  go_loopw [3, 8] (fun t i wr => ∃ k : Nat, k ≤ l.length ∧ i = .int .i64 k ∧ t = .int .i64 (M.nv 0 (l.take k) : Nat) ∧ wr = w) (fun _ i _ => l.length - (intOf i).toNat)
  case atStart => exact ⟨0, by omega, rfl, rfl, rfl⟩
  case round =>
    obtain ⟨k, hk, rfl, rfl, rfl⟩ := hrel
    by_cases hlt : k < l.length
    · obtain ⟨b, o, rfl, hc⟩ := ha (by omega)
      have c1 := hc k hlt
      have hm : M.nv 0 (l.take k) < 16777216 := by
        refine Nat.lt_of_lt_of_le (M.nv_lt (l.take k) 0 (fun x hx => HL.out x (List.mem_of_mem_take hx))) ?_
        rw [List.length_take, Nat.min_eq_left hk, Nat.zero_add, Nat.one_mul]
        exact Nat.le_trans (Nat.pow_le_pow_right (by decide) (show k ≤ 3 by omega)) (by decide)
      have hx : l.getD k 0 < 256 := by
        rw [List.getD_eq_getElem?_getD, List.getElem?_eq_getElem hlt]
        exact HL.out _ (List.getElem_mem hlt)
      have HS : Hid (M.nv 0 (l.take (k + 1)) = M.nv 0 (l.take k) * 256 + l.getD k 0) := by
        show _ = _
        rw [List.take_succ_eq_append_getElem hlt, M.nv_snoc]
        simp [List.getD_eq_getElem?_getD, hlt]
      clear hc ha
      generalize l.getD k 0 = x at *
      generalize M.nv 0 (l.take k) = m at *
      go_wp2
      go_roundw
      case rel =>
        refine ⟨k + 1, by omega, by go_num, ?_, by trivial⟩
        rw [HS.out, or_i64 (m : Int) x hx (by omega) (by omega)]
        congr 1
      case measure => simp [intOf]; omega
    · have e : k = l.length := by omega
      have HE : Hid (M.nv 0 (l.take k) = M.nv 0 l) := by show _ = _; rw [e, List.take_of_length_le (Nat.le_refl _)]
      clear e ha
      generalize M.nv 0 (l.take k) = m at *
      go_wp2
      go_ret
      exact ⟨by rw [HE.out]; rfl, rfl⟩

/-- Which places of a page are taken, in the block g. -/
def Tk (w : World) (g : Nat) (t : TypeId) (f : Nat → Bool) : Prop := w.heap[g]? = some (.cells ((M.tg f).map Value.bool).toArray t (0, 0))
theorem Tk.cell {w : World} {g : Nat} {t : TypeId} {f : Nat → Bool} (h : Tk w g t f) {i : Nat} (hi : i < 512) : w.cell? ⟨g, i, none⟩ = some (.bool (f i)) := by
  rw [cell_of_row w g i _ t (0, 0) h]
  simp [M.tg, hi]
theorem Tk.loose {w : World} {g : Nat} {t : TypeId} {f : Nat → Bool} (h : Tk w g t f) (i : Nat) : w.frozen? ⟨g, i, none⟩ = false := by
  unfold Tk at h
  simp [World.frozen?, h]
theorem Tk.put {w : World} {g : Nat} {t : TypeId} {f : Nat → Bool} (h : Tk w g t f) (i : Nat) : Tk (w.setCell ⟨g, i, none⟩ (.bool true)) g t (M.mark f i (i + 1)) := by
  have := heap_setCell_same w g i _ t (.bool true) h
  unfold Tk
  rw [this, ← M.tg_set, List.map_set]
  simp
theorem Tk.on {w w' : World} {g : Nat} {t : TypeId} {f : Nat → Bool} {fs : List Nat} (h : Tk w g t f) (hF : Fr fs w w') (hn : g ∉ fs) : Tk w' g t f := by
  unfold Tk
  rw [hF.2.2 g (Array.getElem?_eq_some_iff.1 h).1 hn]
  exact h
theorem Tk.lt {w : World} {g : Nat} {t : TypeId} {f : Nat → Bool} (h : Tk w g t f) : g < w.heap.size := (Array.getElem?_eq_some_iff.1 h).1

set_option maxRecDepth 100000 in
set_option maxHeartbeats 400000 in
theorem take_any (g b e : Nat) (f : Nat → Bool) (w : World) (h : Tk w g 53 f) (he : e ≤ 1000000) :
    Calls Try.prog 27 #[.pointer (some ⟨g, 0, none⟩), .int .i64 b, .int .i64 e] w fun r w' => r = .returned (.bool (decide (e ≤ 512) && M.free f b e)) ∧ (e ≤ 512 → M.free f b e = true → Tk w' g 53 (M.mark f b e)) ∧ Fr [g] w w' := by
  by_cases h5 : e ≤ 512
  · have HE : Hid (decide (e ≤ 512) = true) := by show _ = _; exact decide_eq_true h5
    rw [HE.out, Bool.true_and]
    go_enter Try.func27, Try.ntmps27
    go_wp2
    go_loopw [7] (fun i wr => ∃ k : Nat, b ≤ k ∧ (k = b ∨ k ≤ e) ∧ i = .int .i64 k ∧ (∀ j, b ≤ j → j < k → f j = false) ∧ Tk wr g 53 (M.mark f b k) ∧ Fr [g] w wr) (fun i _ => e - (intOf i).toNat)
    case atStart => exact ⟨b, Nat.le_refl _, .inl rfl, rfl, fun j h1 h2 => by omega, by rw [M.mark_nil f (Nat.le_refl _)]; exact h, Fr.refl _ _⟩
    case round =>
      obtain ⟨k, hk1, hk2, rfl, hall, hT, hF⟩ := hrel
      have HA := Hid.mk' hall
      have HT := Hid.mk' hT
      have HF := Hid.mk' hF
      have HK := Hid.mk' hk2
      clear hall hF hk2
      by_cases hlt : k < e
      · have c1 := hT.cell (i := k) (by omega)
        have c2 := hT.loose k
        have HM : Hid (M.mark f b k k = f k) := M.mark_out f (Nat.le_refl _)
        rw [HM.out] at c1
        clear hT
        cases hf : f k with
        | true =>
          rw [hf] at c1
          have HR := Hid.mk' (M.free_not hk1 hlt hf)
          clear hf
          go_wp2
          go_ret
          refine ⟨by rw [HR.out]; rfl, fun _ h2 => ?_, HF.out⟩
          rw [HR.out] at h2
          cases h2
        | false =>
          rw [hf] at c1
          have HR := Hid.mk' hf
          clear hf
          go_wp2
          go_roundw
          case rel =>
            refine ⟨k + 1, by omega, .inr (by omega), by go_num, fun j h1 h2 => ?_, ?_, HF.out.trans (Fr.of_set _ _ _) (fun q hq => .inl hq)⟩
            · by_cases hj : j = k
              · subst hj; exact HR.out
              · exact HA.out j h1 (by omega)
            · have := HT.out.put k
              rw [M.mark_next f hk1] at this
              exact this
          case measure => simp [intOf]; omega
      · clear hT
        have HR : Hid (M.free f b e = true) := (M.free_iff f b e).2 (fun i h1 h2 => HA.out i h1 (by omega))
        have HM : Hid (M.mark f b e = M.mark f b k) := by
          show _ = _
          rcases HK.out with h1 | h1
          · rw [M.mark_nil f (show e ≤ b by omega), h1, M.mark_nil f (Nat.le_refl _)]
          · rw [show e = k by omega]
        go_wp2
        go_ret
        refine ⟨by rw [HR.out]; rfl, fun _ _ => ?_, HF.out⟩
        rw [HM.out]
        exact HT.out
  · have HE : Hid (decide (e ≤ 512) = false) := by show _ = _; exact decide_eq_false h5
    rw [HE.out, Bool.false_and]
    go_enter Try.func27, Try.ntmps27
    go_wp2
    go_ret
    exact ⟨rfl, fun h1 => absurd h1 h5, Fr.refl _ _⟩

theorem ret_cell {a b c d : Int} {x y : Bool} (h1 : a = c) (h2 : b = d) (h3 : x = y) : Ending.returned (.tuple #[.int .i64 a, .int .i64 b, .bool x]) = .returned (.tuple #[.int .i64 c, .int .i64 d, .bool y]) := by rw [h1, h2, h3]

set_option maxRecDepth 100000 in
set_option maxHeartbeats 400000 in
theorem cellAt_any (a : Option Addr) (ca : Nat) (p : List Nat) (q : Nat) (w : World) (hv : Sees w (.slice a 512 ca) p) (hl : ∀ x ∈ p, x < 256) (hp : p.length = 512) (hc : 512 ≤ ca) (hq : q < 65536) :
    Calls Try.prog 28 #[.slice a 512 ca, .int .i64 q] w fun e w' => e = .returned (.tuple (match M.cellAt p q with | none => #[.int .i64 0, .int .i64 0, .bool false] | some (x, y) => #[.int .i64 x, .int .i64 y, .bool true])) ∧ w' = w := by
  by_cases h5 : 512 ≤ q
  · have HE : Hid (M.cellAt p q = none) := by show _ = _; unfold M.cellAt; rw [if_pos h5]
    rw [HE.out]
    clear hv
    go_enter Try.func28, Try.ntmps28
    go_wp2
    go_ret3
    exact ⟨rfl, rfl⟩
  · have hne : ¬ ca = q := by omega
    have HV : Hid (Sees w (.slice (Option.map (fun x => x.add q) a) (512 - q) (ca - q)) (p.drop q)) := by
      have := Sees.drop1 (w := w) (a := a) (ca := ca) (l := p) (by rw [hp]; exact hv) q (by omega)
      rwa [hp] at this
    have HG := Hid.mk' (get_any _ _ w HV.out (fun x hx => hl x (List.mem_of_mem_drop hx)))
    have hlt := M.get_lt (p.drop q) (fun x hx => hl x (List.mem_of_mem_drop hx))
    have hgo := M.get_err (p.drop q)
    have hgk := M.get_ok (p.drop q) (fun x hx => hl x (List.mem_of_mem_drop hx))
    have HE : Hid (M.cellAt p q = if (M.get (p.drop q)).2.2 ≠ 0 ∨ 512 - (q + (M.get (p.drop q)).2.1) < (M.get (p.drop q)).1 then none else some (q + (M.get (p.drop q)).2.1, q + (M.get (p.drop q)).2.1 + (M.get (p.drop q)).1)) := by show _ = _; unfold M.cellAt; rw [if_neg h5]
    have hdl : (p.drop q).length = 512 - q := by rw [List.length_drop, hp]
    rw [hdl] at hgk
    clear hv HV hl hdl hp
    generalize M.get (p.drop q) = r at *
    obtain ⟨n, s, e⟩ := r
    simp only at HG hlt hgo hgk HE
    by_cases he : e = 0
    · subst he
      obtain ⟨h1, h2, _⟩ := hgk rfl
      clear hgk hgo
      by_cases hn : 512 - (q + s) < n
      · rw [if_pos (.inr hn)] at HE
        rw [HE.out]
        have t1 : decide ((512 : Int) - ((q : Int) + s) < n) = true := by simp; omega
        go_enter Try.func28, Try.ntmps28
        go_wp2_with fail
        refine HG.out.mono ?_
        rintro e w' ⟨rfl, hw'⟩
        obtain rfl := hw'.symm
        go_wp2
        all_goals
          go_ret3
          first | exact ⟨rfl, rfl⟩ | (exfalso; omega)
      · rw [if_neg (by omega)] at HE
        rw [HE.out]
        have t1 : decide ((512 : Int) - ((q : Int) + s) < n) = false := by simp; omega
        go_enter Try.func28, Try.ntmps28
        go_wp2_with fail
        refine HG.out.mono ?_
        rintro e w' ⟨rfl, hw'⟩
        obtain rfl := hw'.symm
        go_wp2
        all_goals
          go_ret3
          exact ⟨ret_cell (by omega) (by omega) rfl, rfl⟩
    · have hr : n = 0 ∧ s = 0 ∧ e = 1 := by
        rcases hgo with h1 | h1
        · exact absurd h1.1 he
        · simpa using h1
      obtain ⟨rfl, rfl, rfl⟩ := hr
      rw [if_pos (.inl (by decide))] at HE
      rw [HE.out]
      clear hgk hgo he
      go_enter Try.func28, Try.ntmps28
      go_wp2_with fail
      refine HG.out.mono ?_
      rintro e w' ⟨rfl, hw'⟩
      obtain rfl := hw'.symm
      go_wp2
      go_ret3
      exact ⟨rfl, rfl⟩

theorem append_bytes (w : World) (base : Nat) (v : Value) (l : List Nat) (hown : w.ownsRow base 5 1 v l.length (l.map B8)) (xv : Value) (m : List Nat) (hs : Sees w xv m) (hb : l.length + m.length ≤ 1000000000) (hbase : base ≤ w.heap.size) :
    ∃ v' w', (Builtin.append_ #[24, 24] 24 #[v, xv]).run Try.prog w = .ok v' w' ∧ w'.ownsRow base 5 1 v' (l ++ m).length ((l ++ m).map B8) ∧ w.grownBy w' v.ownBlock ∧ (v'.ownBlock = v.ownBlock ∨ v'.ownBlock = some w.heap.size) := by
  obtain ⟨i0, hi, hz0, hz1, hz2⟩ := info_parts Try.info5
  have := run_append_src w base 24 24 24 5 i0 _ 1 1 Try.underlying24 hi hz0 hz1 hz2 rfl v l.length _ hown xv m.length _ (src_sees hs) (by unfold maxLen; omega) (by omega) hbase
  rw [List.length_append, List.map_append]
  exact this

theorem nil_is (n c : Nat) (w : World) : (binOp .eql 24 (.slice none n c) (.slice none 0 0)).run Try.prog w = .ok (.bool true) w := by kernel_rfl
theorem nil_not (a : Addr) (n c : Nat) (w : World) : (binOp .eql 24 (.slice (some a) n c) (.slice none 0 0)).run Try.prog w = .ok (.bool false) w := by kernel_rfl

set_option maxRecDepth 100000 in
set_option maxHeartbeats 400000 in
theorem clone_any (v : Value) (l : List Nat) (w : World) (hv : Sees w v l) (hs : l.length ≤ 4194304) :
    Calls Try.prog 29 #[v] w fun e w' => ∃ v', e = .returned v' ∧ w'.ownsRow w.heap.size 5 1 v' l.length (l.map B8) ∧ Below w.heap.size w w' := by
  have HV := Hid.mk' hv
  obtain ⟨⟨a, ca, rfl, ha⟩, hma⟩ := hv
  clear ha
  have hn1 := nil_is
  have hn2 := nil_not
  cases a with
  | none =>
    have HL : Hid (l = []) := by
      show _ = _
      obtain ⟨⟨a', ca', he, ha⟩, _⟩ := HV.out
      by_cases h1 : 1 ≤ l.length
      · obtain ⟨b, o, h2, _⟩ := ha h1
        rw [h2] at he
        cases he
      · exact List.eq_nil_of_length_eq_zero (by omega)
    go_enter Try.func29, Try.ntmps29
    go_wp2
    go_ret
    rw [HL.out]
    exact ⟨_, rfl, World.ownsRow_nil _ _ _ _, Below.refl _ _⟩
  | some ad =>
    have hb0 : Below w.heap.size w (w.alloc (.cells #[] 5)) := (Below.refl _ _).alloc (Nat.le_refl _) _
    have hown : (w.alloc (.cells #[] 5)).ownsRow w.heap.size 5 1 (.slice (some ⟨w.heap.size, 0, none⟩) 0 0) ([] : List Nat).length (([] : List Nat).map B8) := owns_new w #[] 0 w.heap.size (Nat.le_refl _) rfl (by unfold maxLen; omega)
    obtain ⟨v', w', hr, ho, hg, hbk⟩ := append_bytes _ _ _ [] hown _ l (HV.out.below hb0) (by simp; omega) (by simp)
    have HA : Hid (∃ v' w', (Builtin.append_ #[24, 24] 24 #[.slice (some ⟨w.heap.size, 0, none⟩) 0 0, .slice (some ad) l.length ca]).run Try.prog (w.alloc (.cells #[] 5)) = .ok v' w' ∧ (w'.ownsRow w.heap.size 5 1 v' l.length (l.map B8) ∧ Below w.heap.size w w')) := by
      refine ⟨v', w', hr, ho, hb0.grown hg (by simp) (fun k hk => ?_)⟩
      have : w.heap.size = k := by simpa [Value.ownBlock] using hk
      omega
    clear hr ho hg hbk hown hb0
    go_enter Try.func29, Try.ntmps29
    go_wp2_with (at_builtin; refine wpList_append_run rfl _ _ 24 24 rfl _ _ rfl rfl HA.out ?_; rintro v5 w5 ⟨ho5, hg5⟩)
    go_ret
    exact ⟨_, rfl, ho5, hg5⟩
end Go.Proofs.Ytpndkeffkiilpaa
