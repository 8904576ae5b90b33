/-
  The contracts of number, take, cellAt and bytes.Clone; what of a page is taken.
  Cells as they are handed in or told; the contracts of EqCells, CopyCells, num, heavy and of both Rooms.
  The contracts of num, of heavy and of both Rooms.
  The contract of the reference's Room.
  The contract of node.Encode.
-/
import Derived.Test.YtojkbhkjnhhkoaaGreatMg18
namespace Go.Proofs.YtojkbhkjnhhkoaaGreat.Nod.M
/-- All places from b to below e are free. -/
def free (f : Nat → Bool) (b e : Nat) : Bool := (List.range (e - b)).all fun j => !f (b + j)
theorem free_iff (f : Nat → Bool) (b e : Nat) : free f b e = true ↔ ∀ i, b ≤ i → i < e → f i = false := by
  unfold free
  rw [List.all_eq_true]
  constructor
  · intro h i h1 h2
    have := h (i - b) (List.mem_range.2 (by omega))
    rw [show b + (i - b) = i by omega] at this
    simpa using this
  · intro h j hj
    have := h (b + j) (by omega) (by have := List.mem_range.1 hj; omega)
    simp [this]
theorem free_not {f : Nat → Bool} {b e i : Nat} (h1 : b ≤ i) (h2 : i < e) (h : f i = true) : free f b e = false := by
  cases hf : free f b e with
  | false => rfl
  | true => have := (free_iff f b e).1 hf i h1 h2; rw [h] at this; cases this
/-- These places are taken, too. -/
def mark (f : Nat → Bool) (b e : Nat) : Nat → Bool := fun i => if b ≤ i ∧ i < e then true else f i
theorem mark_nil (f : Nat → Bool) {b e : Nat} (h : e ≤ b) : mark f b e = f := funext fun i => by unfold mark; rw [if_neg (by omega)]
theorem mark_next (f : Nat → Bool) {b k : Nat} (h : b ≤ k) : mark (mark f b k) k (k + 1) = mark f b (k + 1) := by
  funext i
  unfold mark
  by_cases h1 : k ≤ i ∧ i < k + 1
  · rw [if_pos h1, if_pos (by omega)]
  · rw [if_neg h1]
    by_cases h2 : b ≤ i ∧ i < k
    · rw [if_pos h2, if_pos (by omega)]
    · rw [if_neg h2, if_neg (by omega)]
theorem mark_out (f : Nat → Bool) {b k i : Nat} (h : k ≤ i) : mark f b k i = f i := by unfold mark; rw [if_neg (by omega)]
def tg (f : Nat → Bool) : List Bool := (List.range 512).map f
theorem tg_set (f : Nat → Bool) (q : Nat) : (tg f).set q true = tg (mark f q (q + 1)) := by
  apply List.ext_getElem?
  intro j
  rw [List.getElem?_set]
  by_cases hj : j < 512
  · by_cases h : q = j
    · subst h
      simp [tg, hj, mark]
    · rw [if_neg h]
      simp only [tg, List.getElem?_map, List.getElem?_range hj, Option.map_some]
      unfold mark
      rw [if_neg (by omega)]
  · have e1 : (tg f)[j]? = none := List.getElem?_eq_none (by simp [tg]; omega)
    have e2 : (tg (mark f q (q + 1)))[j]? = none := List.getElem?_eq_none (by simp [tg]; omega)
    rw [e1, e2]
    split
    · rw [if_neg (by simp [tg]; omega)]
    · rfl
/-- Where a cell's bytes begin and end. -/
def cellAt (p : List Nat) (q : Nat) : Option (Nat × Nat) :=
  if 512 ≤ q then none else if (get (p.drop q)).2.2 ≠ 0 ∨ 512 - (q + (get (p.drop q)).2.1) < (get (p.drop q)).1 then none else some (q + (get (p.drop q)).2.1, q + (get (p.drop q)).2.1 + (get (p.drop q)).1)
end Go.Proofs.YtojkbhkjnhhkoaaGreat.Nod.M
namespace Go.Proofs.YtojkbhkjnhhkoaaGreat.Nod
open Go.RowKit

theorem or_i64 (m : Int) (y : Nat) (hy : y < 256) (h0 : -36028797018963968 ≤ m) (h1 : m < 36028797018963968) : bits .or .i64 (m * 256) (y : Int) = m * 256 + y := by
  have e1 : (BitVec.ofInt 64 (m * 256)).toNat = (m % 72057594037927936).toNat * 256 := by
    rw [BitVec.toNat_ofInt]
    simp only [Nat.reducePow]
    omega
  have e2 : (BitVec.ofInt 64 (y : Int)).toNat = y := by
    rw [BitVec.toNat_ofInt]
    simp only [Nat.reducePow]
    omega
  show IntKind.i64.wrap ((BitVec.ofInt 64 (m * 256) ||| BitVec.ofInt 64 (y : Int)).toNat : Int) = _
  rw [BitVec.toNat_or, e1, e2, show (256 : Nat) = 2 ^ 8 from rfl, M.or_low _ y 8 (by omega)]
  simp only [IntKind.wrap, IntKind.bits, IntKind.signed]
  simp
  omega

theorem Sees.drop1 {w : World} {a : Option Addr} {ca : Nat} {l : List Nat} (h : Sees w (.slice a l.length ca) l) (k : Nat) (hk : k ≤ l.length) : Sees w (.slice (Option.map (fun x => x.add k) a) (l.length - k) (ca - k)) (l.drop k) := by
  obtain ⟨⟨a', c', he, hc⟩, hm⟩ := h
  obtain ⟨rfl, rfl⟩ : a = a' ∧ ca = c' := by simpa using he
  have hl : (l.drop k).length = l.length - k := by simp
  refine ⟨⟨Option.map (fun x => x.add k) a, ca - k, by rw [hl], fun h1 => ?_⟩, by omega⟩
  rw [hl] at h1
  obtain ⟨b, o, rfl, hj⟩ := hc (by omega)
  refine ⟨b, o + k, ?_, fun j hj' => ?_⟩
  · have : (⟨b, o, none⟩ : Addr).add k = ⟨b, o + k, none⟩ := by unfold Addr.add; split <;> simp_all
    rw [Option.map_some, this]
  · rw [hl] at hj'
    rw [Nat.add_assoc, hj (k + j) (by omega)]
    simp [List.getD_eq_getElem?_getD]

theorem Sees.drop0 {w : World} {a : Option Addr} {ca m : Nat} {l : List Nat} (k : Nat) (hk : l.length ≤ k) (hm : m = 0) : Sees w (.slice a m ca) (l.drop k) := by
  have e : l.drop k = [] := List.drop_of_length_le hk
  rw [e]
  subst hm
  exact ⟨⟨a, ca, rfl, fun h => by simp at h⟩, by simp⟩


set_option maxRecDepth 100000 in
set_option maxHeartbeats 400000 in
theorem number_any (v : Value) (l : List Nat) (w : World) (hv : Sees w v l) (hl : ∀ x ∈ l, x < 256) (h4 : l.length ≤ 4) :
    Calls Tryz.prog 170 #[v] w fun e w' => e = .returned (.int .i64 (M.nv 0 l : Nat)) ∧ w' = w := by
  obtain ⟨⟨a, ca, rfl, ha⟩, hma⟩ := hv
  have HL := Hid.mk' hl
  clear hma hl
  go_enter Tryz.func170, Tryz.ntmps170
  go_wp2
  go_loopw [3, 8] (fun t i wr => ∃ k : Nat, k ≤ l.length ∧ i = .int .i64 k ∧ t = .int .i64 (M.nv 0 (l.take k) : Nat) ∧ wr = w) (fun _ i _ => l.length - (intOf i).toNat)
  case atStart => exact ⟨0, by omega, rfl, rfl, rfl⟩
  case round =>
    obtain ⟨k, hk, rfl, rfl, rfl⟩ := hrel
    by_cases hlt : k < l.length
    · obtain ⟨b, o, rfl, hc⟩ := ha (by omega)
      have c1 := hc k hlt
      have hm : M.nv 0 (l.take k) < 16777216 := by
        refine Nat.lt_of_lt_of_le (M.nv_lt (l.take k) 0 (fun x hx => HL.out x (List.mem_of_mem_take hx))) ?_
        rw [List.length_take, Nat.min_eq_left hk, Nat.zero_add, Nat.one_mul]
        exact Nat.le_trans (Nat.pow_le_pow_right (by decide) (show k ≤ 3 by omega)) (by decide)
      have hx : l.getD k 0 < 256 := by
        rw [List.getD_eq_getElem?_getD, List.getElem?_eq_getElem hlt]
        exact HL.out _ (List.getElem_mem hlt)
      have HS : Hid (M.nv 0 (l.take (k + 1)) = M.nv 0 (l.take k) * 256 + l.getD k 0) := by
        show _ = _
        rw [List.take_succ_eq_append_getElem hlt, M.nv_snoc]
        simp [List.getD_eq_getElem?_getD, hlt]
      clear hc ha
      generalize l.getD k 0 = x at *
      generalize M.nv 0 (l.take k) = m at *
      go_wp2
      go_roundw
      case rel =>
        refine ⟨k + 1, by omega, by go_num, ?_, by trivial⟩
        rw [HS.out, or_i64 (m : Int) x hx (by omega) (by omega)]
        congr 1
      case measure => simp [intOf]; omega
    · have e : k = l.length := by omega
      have HE : Hid (M.nv 0 (l.take k) = M.nv 0 l) := by show _ = _; rw [e, List.take_of_length_le (Nat.le_refl _)]
      clear e ha
      generalize M.nv 0 (l.take k) = m at *
      go_wp2
      go_ret
      exact ⟨by rw [HE.out]; rfl, rfl⟩

/-- Which places of a page are taken, in the block g. -/
def Tk (w : World) (g : Nat) (t : TypeId) (f : Nat → Bool) : Prop := w.heap[g]? = some (.cells ((M.tg f).map Value.bool).toArray t (0, 0))
theorem Tk.cell {w : World} {g : Nat} {t : TypeId} {f : Nat → Bool} (h : Tk w g t f) {i : Nat} (hi : i < 512) : w.cell? ⟨g, i, none⟩ = some (.bool (f i)) := by
  rw [cell_of_row w g i _ t (0, 0) h]
  simp [M.tg, hi]
theorem Tk.loose {w : World} {g : Nat} {t : TypeId} {f : Nat → Bool} (h : Tk w g t f) (i : Nat) : w.frozen? ⟨g, i, none⟩ = false := by
  unfold Tk at h
  simp [World.frozen?, h]
theorem Tk.put {w : World} {g : Nat} {t : TypeId} {f : Nat → Bool} (h : Tk w g t f) (i : Nat) : Tk (w.setCell ⟨g, i, none⟩ (.bool true)) g t (M.mark f i (i + 1)) := by
  have := heap_setCell_same w g i _ t (.bool true) h
  unfold Tk
  rw [this, ← M.tg_set, List.map_set]
  simp
theorem Tk.on {w w' : World} {g : Nat} {t : TypeId} {f : Nat → Bool} {fs : List Nat} (h : Tk w g t f) (hF : Fr fs w w') (hn : g ∉ fs) : Tk w' g t f := by
  unfold Tk
  rw [hF.2.2 g (Array.getElem?_eq_some_iff.1 h).1 hn]
  exact h
theorem Tk.lt {w : World} {g : Nat} {t : TypeId} {f : Nat → Bool} (h : Tk w g t f) : g < w.heap.size := (Array.getElem?_eq_some_iff.1 h).1

set_option maxRecDepth 100000 in
set_option maxHeartbeats 400000 in
theorem take_any (g b e : Nat) (f : Nat → Bool) (w : World) (h : Tk w g 253 f) (he : e ≤ 1000000) :
    Calls Tryz.prog 171 #[.pointer (some ⟨g, 0, none⟩), .int .i64 b, .int .i64 e] w fun r w' => r = .returned (.bool (decide (e ≤ 512) && M.free f b e)) ∧ (e ≤ 512 → M.free f b e = true → Tk w' g 253 (M.mark f b e)) ∧ Fr [g] w w' := by
  by_cases h5 : e ≤ 512
  · have HE : Hid (decide (e ≤ 512) = true) := by show _ = _; exact decide_eq_true h5
    rw [HE.out, Bool.true_and]
    go_enter Tryz.func171, Tryz.ntmps171
    go_wp2
    go_loopw [7] (fun i wr => ∃ k : Nat, b ≤ k ∧ (k = b ∨ k ≤ e) ∧ i = .int .i64 k ∧ (∀ j, b ≤ j → j < k → f j = false) ∧ Tk wr g 253 (M.mark f b k) ∧ Fr [g] w wr) (fun i _ => e - (intOf i).toNat)
    case atStart => exact ⟨b, Nat.le_refl _, .inl rfl, rfl, fun j h1 h2 => by omega, by rw [M.mark_nil f (Nat.le_refl _)]; exact h, Fr.refl _ _⟩
    case round =>
      obtain ⟨k, hk1, hk2, rfl, hall, hT, hF⟩ := hrel
      have HA := Hid.mk' hall
      have HT := Hid.mk' hT
      have HF := Hid.mk' hF
      have HK := Hid.mk' hk2
      clear hall hF hk2
      by_cases hlt : k < e
      · have c1 := hT.cell (i := k) (by omega)
        have c2 := hT.loose k
        have HM : Hid (M.mark f b k k = f k) := M.mark_out f (Nat.le_refl _)
        rw [HM.out] at c1
        clear hT
        cases hf : f k with
        | true =>
          rw [hf] at c1
          have HR := Hid.mk' (M.free_not hk1 hlt hf)
          clear hf
          go_wp2
          go_ret
          refine ⟨by rw [HR.out]; rfl, fun _ h2 => ?_, HF.out⟩
          rw [HR.out] at h2
          cases h2
        | false =>
          rw [hf] at c1
          have HR := Hid.mk' hf
          clear hf
          go_wp2
          go_roundw
          case rel =>
            refine ⟨k + 1, by omega, .inr (by omega), by go_num, fun j h1 h2 => ?_, ?_, HF.out.trans (Fr.of_set _ _ _) (fun q hq => .inl hq)⟩
            · by_cases hj : j = k
              · subst hj; exact HR.out
              · exact HA.out j h1 (by omega)
            · have := HT.out.put k
              rw [M.mark_next f hk1] at this
              exact this
          case measure => simp [intOf]; omega
      · clear hT
        have HR : Hid (M.free f b e = true) := (M.free_iff f b e).2 (fun i h1 h2 => HA.out i h1 (by omega))
        have HM : Hid (M.mark f b e = M.mark f b k) := by
          show _ = _
          rcases HK.out with h1 | h1
          · rw [M.mark_nil f (show e ≤ b by omega), h1, M.mark_nil f (Nat.le_refl _)]
          · rw [show e = k by omega]
        go_wp2
        go_ret
        refine ⟨by rw [HR.out]; rfl, fun _ _ => ?_, HF.out⟩
        rw [HM.out]
        exact HT.out
  · have HE : Hid (decide (e ≤ 512) = false) := by show _ = _; exact decide_eq_false h5
    rw [HE.out, Bool.false_and]
    go_enter Tryz.func171, Tryz.ntmps171
    go_wp2
    go_ret
    exact ⟨rfl, fun h1 => absurd h1 h5, Fr.refl _ _⟩

theorem ret_cell {a b c d : Int} {x y : Bool} (h1 : a = c) (h2 : b = d) (h3 : x = y) : Ending.returned (.tuple #[.int .i64 a, .int .i64 b, .bool x]) = .returned (.tuple #[.int .i64 c, .int .i64 d, .bool y]) := by rw [h1, h2, h3]

set_option maxRecDepth 100000 in
set_option maxHeartbeats 400000 in
theorem cellAt_any (a : Option Addr) (ca : Nat) (p : List Nat) (q : Nat) (w : World) (hv : Sees w (.slice a 512 ca) p) (hl : ∀ x ∈ p, x < 256) (hp : p.length = 512) (hc : 512 ≤ ca) (hq : q < 65536) :
    Calls Tryz.prog 172 #[.slice a 512 ca, .int .i64 q] w fun e w' => e = .returned (.tuple (match M.cellAt p q with | none => #[.int .i64 0, .int .i64 0, .bool false] | some (x, y) => #[.int .i64 x, .int .i64 y, .bool true])) ∧ w' = w := by
  by_cases h5 : 512 ≤ q
  · have HE : Hid (M.cellAt p q = none) := by show _ = _; unfold M.cellAt; rw [if_pos h5]
    rw [HE.out]
    clear hv
    go_enter Tryz.func172, Tryz.ntmps172
    go_wp2
    go_ret3
    exact ⟨rfl, rfl⟩
  · have hne : ¬ ca = q := by omega
    have HV : Hid (Sees w (.slice (Option.map (fun x => x.add q) a) (512 - q) (ca - q)) (p.drop q)) := by
      have := Sees.drop1 (w := w) (a := a) (ca := ca) (l := p) (by rw [hp]; exact hv) q (by omega)
      rwa [hp] at this
    have HG := Hid.mk' (get_any _ _ w HV.out (fun x hx => hl x (List.mem_of_mem_drop hx)))
    have hlt := M.get_lt (p.drop q) (fun x hx => hl x (List.mem_of_mem_drop hx))
    have hgo := M.get_err (p.drop q)
    have hgk := M.get_ok (p.drop q) (fun x hx => hl x (List.mem_of_mem_drop hx))
    have HE : Hid (M.cellAt p q = if (M.get (p.drop q)).2.2 ≠ 0 ∨ 512 - (q + (M.get (p.drop q)).2.1) < (M.get (p.drop q)).1 then none else some (q + (M.get (p.drop q)).2.1, q + (M.get (p.drop q)).2.1 + (M.get (p.drop q)).1)) := by show _ = _; unfold M.cellAt; rw [if_neg h5]
    have hdl : (p.drop q).length = 512 - q := by rw [List.length_drop, hp]
    rw [hdl] at hgk
    clear hv HV hl hdl hp
    generalize M.get (p.drop q) = r at *
    obtain ⟨n, s, e⟩ := r
    simp only at HG hlt hgo hgk HE
    by_cases he : e = 0
    · subst he
      obtain ⟨h1, h2, _⟩ := hgk rfl
      clear hgk hgo
      by_cases hn : 512 - (q + s) < n
      · rw [if_pos (.inr hn)] at HE
        rw [HE.out]
        have t1 : decide ((512 : Int) - ((q : Int) + s) < n) = true := by simp; omega
        go_enter Tryz.func172, Tryz.ntmps172
        go_wp2_with fail
        refine HG.out.mono ?_
        rintro e w' ⟨rfl, hw'⟩
        obtain rfl := hw'.symm
        go_wp2
        all_goals
          go_ret3
          first | exact ⟨rfl, rfl⟩ | (exfalso; omega)
      · rw [if_neg (by omega)] at HE
        rw [HE.out]
        have t1 : decide ((512 : Int) - ((q : Int) + s) < n) = false := by simp; omega
        go_enter Tryz.func172, Tryz.ntmps172
        go_wp2_with fail
        refine HG.out.mono ?_
        rintro e w' ⟨rfl, hw'⟩
        obtain rfl := hw'.symm
        go_wp2
        all_goals
          go_ret3
          exact ⟨ret_cell (by omega) (by omega) rfl, rfl⟩
    · have hr : n = 0 ∧ s = 0 ∧ e = 1 := by
        rcases hgo with h1 | h1
        · exact absurd h1.1 he
        · simpa using h1
      obtain ⟨rfl, rfl, rfl⟩ := hr
      rw [if_pos (.inl (by decide))] at HE
      rw [HE.out]
      clear hgk hgo he
      go_enter Tryz.func172, Tryz.ntmps172
      go_wp2_with fail
      refine HG.out.mono ?_
      rintro e w' ⟨rfl, hw'⟩
      obtain rfl := hw'.symm
      go_wp2
      go_ret3
      exact ⟨rfl, rfl⟩

theorem append_bytes (w : World) (base : Nat) (v : Value) (l : List Nat) (hown : w.ownsRow base 5 1 v l.length (l.map B8)) (xv : Value) (m : List Nat) (hs : Sees w xv m) (hb : l.length + m.length ≤ 1000000000) (hbase : base ≤ w.heap.size) :
    ∃ v' w', (Builtin.append_ #[54, 54] 54 #[v, xv]).run Tryz.prog w = .ok v' w' ∧ w'.ownsRow base 5 1 v' (l ++ m).length ((l ++ m).map B8) ∧ w.grownBy w' v.ownBlock ∧ (v'.ownBlock = v.ownBlock ∨ v'.ownBlock = some w.heap.size) := by
  obtain ⟨i0, hi, hz0, hz1, hz2⟩ := info_parts Tryz.info5
  have := run_append_src w base 54 54 54 5 i0 _ 1 1 Tryz.underlying54 hi hz0 hz1 hz2 rfl v l.length _ hown xv m.length _ (src_sees hs) (by unfold maxLen; omega) (by omega) hbase
  rw [List.length_append, List.map_append]
  exact this

theorem nil_is (n c : Nat) (w : World) : (binOp .eql 54 (.slice none n c) (.slice none 0 0)).run Tryz.prog w = .ok (.bool true) w := by kernel_rfl
theorem nil_not (a : Addr) (n c : Nat) (w : World) : (binOp .eql 54 (.slice (some a) n c) (.slice none 0 0)).run Tryz.prog w = .ok (.bool false) w := by kernel_rfl

set_option maxRecDepth 100000 in
set_option maxHeartbeats 400000 in
theorem clone_any (v : Value) (l : List Nat) (w : World) (hv : Sees w v l) (hs : l.length ≤ 4194304) :
    Calls Tryz.prog 58 #[v] w fun e w' => ∃ v', e = .returned v' ∧ w'.ownsRow w.heap.size 5 1 v' l.length (l.map B8) ∧ Below w.heap.size w w' := by
  have HV := Hid.mk' hv
  obtain ⟨⟨a, ca, rfl, ha⟩, hma⟩ := hv
  clear ha
  have hn1 := nil_is
  have hn2 := nil_not
  cases a with
  | none =>
    have HL : Hid (l = []) := by
      show _ = _
      obtain ⟨⟨a', ca', he, ha⟩, _⟩ := HV.out
      by_cases h1 : 1 ≤ l.length
      · obtain ⟨b, o, h2, _⟩ := ha h1
        rw [h2] at he
        cases he
      · exact List.eq_nil_of_length_eq_zero (by omega)
    go_enter Tryz.func58, Tryz.ntmps58
    go_wp2
    go_ret
    rw [HL.out]
    exact ⟨_, rfl, World.ownsRow_nil _ _ _ _, Below.refl _ _⟩
  | some ad =>
    have hb0 : Below w.heap.size w (w.alloc (.cells #[] 5)) := (Below.refl _ _).alloc (Nat.le_refl _) _
    have hown : (w.alloc (.cells #[] 5)).ownsRow w.heap.size 5 1 (.slice (some ⟨w.heap.size, 0, none⟩) 0 0) ([] : List Nat).length (([] : List Nat).map B8) := owns_new w #[] 0 w.heap.size (Nat.le_refl _) rfl (by unfold maxLen; omega)
    obtain ⟨v', w', hr, ho, hg, hbk⟩ := append_bytes _ _ _ [] hown _ l (HV.out.below hb0) (by simp; omega) (by simp)
    have HA : Hid (∃ v' w', (Builtin.append_ #[54, 54] 54 #[.slice (some ⟨w.heap.size, 0, none⟩) 0 0, .slice (some ad) l.length ca]).run Tryz.prog (w.alloc (.cells #[] 5)) = .ok v' w' ∧ (w'.ownsRow w.heap.size 5 1 v' l.length (l.map B8) ∧ Below w.heap.size w w')) := by
      refine ⟨v', w', hr, ho, hb0.grown hg (by simp) (fun k hk => ?_)⟩
      have : w.heap.size = k := by simpa [Value.ownBlock] using hk
      omega
    clear hr ho hg hbk hown hb0
    go_enter Tryz.func58, Tryz.ntmps58
    go_wp2_with (at_builtin; refine wpList_append_run rfl _ _ 54 54 rfl _ _ rfl rfl HA.out ?_; rintro v5 w5 ⟨ho5, hg5⟩)
    go_ret
    exact ⟨_, rfl, ho5, hg5⟩
end Go.Proofs.YtojkbhkjnhhkoaaGreat.Nod
namespace Go.Proofs.YtojkbhkjnhhkoaaGreat.Nod
open Go.RowKit

theorem Sees.slice {w : World} {v : Value} {l : List Nat} (h : Sees w v l) : ∃ a c, v = .slice a l.length c := by
  obtain ⟨⟨a, c, h, _⟩, _⟩ := h
  exact ⟨a, c, h⟩

/-- The slice value v shows cells. -/
def Cells (w : World) (v : Value) (LL : List (List Nat)) : Prop :=
  (∃ a cap, v = .slice a LL.length cap ∧ (1 ≤ LL.length → ∃ b o, a = some ⟨b, o, none⟩ ∧ ∀ j, j < LL.length → ∃ u, w.cell? ⟨b, o + j, none⟩ = some u ∧ Sees w u (LL.getD j []))) ∧ LL.length ≤ 9223372036854775807
theorem Cells.below {w w' : World} {v : Value} {LL : List (List Nat)} (h : Cells w v LL) (hb : Below w.heap.size w w') : Cells w' v LL := by
  obtain ⟨⟨a, cap, rfl, hc⟩, hm⟩ := h
  refine ⟨⟨a, cap, rfl, fun h1 => ?_⟩, hm⟩
  obtain ⟨b, o, rfl, hj⟩ := hc h1
  refine ⟨b, o, rfl, fun j hlt => ?_⟩
  obtain ⟨u, h1, h2⟩ := hj j hlt
  exact ⟨u, cell_on hb h1, h2.below hb⟩
theorem Cells.nil (w : World) : Cells w (.slice none 0 0) [] := ⟨⟨none, 0, rfl, fun h => absurd h (by simp)⟩, by simp⟩
theorem Cells.slice {w : World} {v : Value} {l : List (List Nat)} (h : Cells w v l) : ∃ a c, v = .slice a l.length c := by
  obtain ⟨⟨a, c, h, _⟩, _⟩ := h
  exact ⟨a, c, h⟩

/-- The cells lie in rows that are new since base. -/
def Rows' (w : World) (base : Nat) (v : Value) (LL : List (List Nat)) : Prop :=
  ∃ us : List Value, us.length = LL.length ∧ w.ownsRow base 54 1 v LL.length us ∧ (∀ j, j < LL.length → ∃ u, us[j]? = some u ∧ w.ownsRow base 5 1 u (LL.getD j []).length ((LL.getD j []).map B8)) ∧ (∀ c ∈ LL, c.length ≤ 1000000) ∧ LL.length ≤ 1000000
theorem Rows'.nil (w : World) (base : Nat) : Rows' w base (.slice none 0 0) [] := ⟨[], rfl, World.ownsRow_nil _ _ _ _, (fun j hj => by cases hj), (fun c hc => by cases hc), by simp⟩
theorem getD_memL (L : List (List Nat)) {i : Nat} (h : i < L.length) : L.getD i [] ∈ L := by simp [List.getD_eq_getElem?_getD, h]
theorem Rows'.cells {w : World} {base : Nat} {v : Value} {LL : List (List Nat)} (h : Rows' w base v LL) : Cells w v LL := by
  obtain ⟨us, hl, ho, hc, hn, hm⟩ := h
  rcases ho.2 with ⟨rfl, h0⟩ | ⟨g, cap, cur, rfl, _⟩
  · obtain rfl := List.eq_nil_of_length_eq_zero h0
    exact Cells.nil w
  · refine ⟨⟨some ⟨g, 0, none⟩, cap, rfl, fun _ => ⟨g, 0, rfl, fun j hj => ?_⟩⟩, by omega⟩
    obtain ⟨u, h1, h2⟩ := hc j hj
    have k1 := ho.cells (g := g) rfl _ _ h1
    rw [Addr.add_lit] at k1
    exact ⟨u, k1, owns_sees' h2 (by have := hn _ (getD_memL LL hj); omega)⟩

theorem EqAt.not {A B : List (List Nat)} {k : Nat} (h : A.getD k [] ≠ B.getD k []) : decide (A = B) = false := decide_eq_false (fun e => h (by rw [e]))
theorem EqAt.all {A B : List (List Nat)} (hl : A.length = B.length) (h : ∀ j, j < B.length → A.getD j [] = B.getD j []) : A = B := by
  apply List.ext_getElem? 
  intro j
  by_cases hj : j < B.length
  · have := h j hj
    simpa [List.getD_eq_getElem?_getD, hj, hl] using this
  · rw [List.getElem?_eq_none (by omega), List.getElem?_eq_none (by omega)]

set_option maxRecDepth 100000 in
set_option maxHeartbeats 400000 in
theorem eqcells_any (va vb : Value) (A B : List (List Nat)) (w : World) (ha : Cells w va A) (hb : Cells w vb B) :
    Calls Tryz.prog 31 #[va, vb] w fun e w' => e = .returned (.bool (decide (A = B))) ∧ ∃ nq, w' = w.drewN nq := by
  obtain ⟨⟨a, ca, rfl, ha⟩, hma⟩ := ha
  obtain ⟨⟨b, cb, rfl, hb⟩, hmb⟩ := hb
  by_cases hlen : A.length = B.length
  · have hne : ((A.length : Int) != (B.length : Int)) = false := by simp [hlen]
    have HLen := Hid.mk' hlen
    rw [hlen] at hne hma ha ⊢
    clear hlen
    go_enter Tryz.func31, Tryz.ntmps31
    go_wp2
    go_loopw [5] (fun i wr => ∃ k mq : Nat, k ≤ B.length ∧ i = .int .i64 k ∧ wr = w.drewN mq ∧ ∀ j, j < k → A.getD j [] = B.getD j []) (fun i _ => B.length - (intOf i).toNat)
    case atStart => exact ⟨0, 0, by omega, rfl, rfl, fun j hj => by omega⟩
    case round =>
      obtain ⟨k, mq, hk, rfl, hwr, hall⟩ := hrel
      have HW := Hid.mk' hwr
      have HA := Hid.mk' hall
      clear hall
      by_cases hlt : k < B.length
      · obtain ⟨ab, ao, rfl, hca⟩ := ha (by omega)
        obtain ⟨bb, bo, rfl, hcb⟩ := hb (by omega)
        obtain ⟨u, c1, hs1⟩ := hca k hlt
        obtain ⟨v, d1, hs2⟩ := hcb k hlt
        have HE := Hid.mk' (fun n => eq_any u v _ _ (wr.drewN n) (show Sees (wr.drewN n) _ _ by rw [hwr]; exact (hs1.drewN mq).drewN n) (show Sees (wr.drewN n) _ _ by rw [hwr]; exact (hs2.drewN mq).drewN n))
        have e1 : wr.cell? ⟨ab, ao + k, none⟩ = some u := by rw [hwr]; exact c1
        have e2 : wr.cell? ⟨bb, bo + k, none⟩ = some v := by rw [hwr]; exact d1
        clear c1 d1 hwr
        clear hs1 hs2 hca hcb ha hb
        by_cases he : A.getD k [] = B.getD k []
        · have hd : decide (A.getD k [] = B.getD k []) = true := decide_eq_true he
          rw [hd] at HE
          have HK := Hid.mk' he
          clear he hd
          go_wp2
          go_quiet (first | (go_at_call 26; exact Calls.quiet_of (HE.out _)))
          go_wp2
          go_roundw
          case rel =>
            refine ⟨k + 1, mq + nq, by omega, by go_num, by rw [HW.out, World.drewN_drewN], fun j hj => ?_⟩
            by_cases hjk : j = k
            · rw [hjk]; exact HK.out
            · exact HA.out j (by omega)
          case measure => simp [intOf]; omega
        · have hd : decide (A.getD k [] = B.getD k []) = false := decide_eq_false he
          rw [hd] at HE
          have HK := Hid.mk' (EqAt.not he)
          clear he hd
          go_wp2
          go_quiet (first | (go_at_call 26; exact Calls.quiet_of (HE.out _)))
          go_wp2
          go_ret
          exact ⟨ret_bool HK.out.symm, mq + nq, by rw [HW.out, World.drewN_drewN]⟩
      · have HK : Hid (decide (A = B) = true) := decide_eq_true (EqAt.all HLen.out (fun j hj => HA.out j (by omega)))
        clear ha hb hwr
        go_wp2
        go_ret
        exact ⟨ret_bool HK.out.symm, mq, HW.out⟩
  · have hne : ((A.length : Int) != (B.length : Int)) = true := by simp; omega
    have HK : Hid (decide (A = B) = false) := decide_eq_false (fun e => hlen (by rw [e]))
    clear ha hb
    go_enter Tryz.func31, Tryz.ntmps31
    go_wp2
    go_ret
    exact ⟨ret_bool HK.out.symm, 0, rfl⟩

theorem Tryz.info54 : (Tryz.prog.info? 54).map (fun i => (i.zero, i.size, i.bytes)) = some (some (.slice none 0 0), 1, 24) := by kernel_rfl

/-- A cell put behind cells of one's own. -/
theorem Rows'.push {w : World} {base : Nat} {v : Value} {LL : List (List Nat)} (h : Rows' w base v LL) (hbase : base ≤ w.heap.size) (hlen : LL.length < 1000000) {w2 : World} {u : Value} {c : List Nat} (hb2 : Below w.heap.size w w2) (hu : w2.ownsRow w.heap.size 5 1 u c.length (c.map B8)) (hc : c.length ≤ 1000000) :
    ∃ v' w', (Builtin.append_ #[34, 34] 34 #[v, .slice (some ⟨w2.heap.size, 0, none⟩) 1 1]).run Tryz.prog (w2.alloc (.cells #[u] 54)) = .ok v' w' ∧ (Rows' w' base v' (LL ++ [c]) ∧ Fr v.ownBlock.toList w2 w') := by
  obtain ⟨us, hl, ho, hcs, hn, hm⟩ := h
  obtain ⟨i0, hi, hz0, hz1, hz2⟩ := info_parts Tryz.info54
  have hsz := hb2.size
  have hal : Below w2.heap.size w2 (w2.alloc (.cells #[u] 54)) := (Below.refl _ _).alloc (Nat.le_refl _) _
  have hu1 : u.oneCell' = true := by rcases hu.2 with ⟨rfl, _⟩ | ⟨_, _, _, rfl, _⟩ <;> rfl
  have ho2 : (w2.alloc (.cells #[u] 54)).ownsRow base 54 1 v LL.length us := owns_keep (owns_keep ho hb2) hal
  obtain ⟨v', w', hr, ho', hg, hbk⟩ := run_append_src (w2.alloc (.cells #[u] 54)) base 34 34 34 54 i0 _ 1 24 Tryz.underlying34 hi hz0 hz1 hz2 rfl v LL.length us ho2 (.slice (some ⟨w2.heap.size, 0, none⟩) 1 1) 1 [u] (src_one w2 54 34 u Tryz.underlying34 hu1) (by unfold maxLen; omega) (by omega) (by simp; omega)
  have hF : Fr v.ownBlock.toList w2 w' := (Fr.of_alloc (fs := v.ownBlock.toList) w2 _).trans (Fr.of_grown hg) (fun k hk => .inl hk)
  have hvb : ∀ k, v.ownBlock = some k → base ≤ k ∧ k < w.heap.size := fun k hk => ho.lt k hk
  have htyp : ∀ k, v.ownBlock = some k → ∃ cur, w.heap[k]? = some (.cells cur 54 (0, 0)) := fun k hk => by
    rcases ho.2 with ⟨rfl, _⟩ | ⟨g, cap, cur, rfl, _, hgb, _⟩
    · cases hk
    · obtain rfl : g = k := by simpa [Value.ownBlock] using hk
      exact ⟨cur, hgb⟩
  have hkeep : ∀ (x : Value) (l : List Nat), w.ownsRow base 5 1 x l.length (l.map B8) → w'.ownsRow base 5 1 x l.length (l.map B8) := fun x l hx => by
    refine hF.owns (owns_keep hx hb2) (fun k hk hm2 => ?_)
    rcases hx.2 with ⟨rfl, _⟩ | ⟨g, cap, cur, rfl, _, hgb, _⟩
    · cases hk
    · obtain rfl : g = k := by simpa [Value.ownBlock] using hk
      obtain ⟨cur', hc'⟩ := htyp g (by simpa using hm2)
      rw [hgb] at hc'
      simp at hc'
  refine ⟨v', w', hr, ⟨us ++ [u], by simp [hl], ?_, fun j hj => ?_, ?_, by simp; omega⟩, hF⟩
  · rw [List.length_append]; exact ho'
  · rw [List.length_append] at hj
    by_cases h1 : j < LL.length
    · obtain ⟨x, hx1, hx2⟩ := hcs j h1
      refine ⟨x, by rw [List.getElem?_append_left (by omega)]; exact hx1, ?_⟩
      have e : (LL ++ [c]).getD j [] = LL.getD j [] := by simp [List.getD_eq_getElem?_getD, List.getElem?_append_left h1]
      rw [e]
      exact hkeep x _ hx2
    · have e : j = LL.length := by simp at hj; omega
      subst e
      refine ⟨u, by rw [List.getElem?_append_right (by omega)]; simp [hl], ?_⟩
      have e : (LL ++ [c]).getD LL.length [] = c := by simp [List.getD_eq_getElem?_getD]
      rw [e]
      refine hF.owns (owns_base hu hbase) (fun k hk hm2 => ?_)
      have h1 := (hu.lt k hk).1
      have h2 := (hvb k (by simpa using hm2)).2
      omega
  · intro d hd
    rcases List.mem_append.1 hd with h | h
    · exact hn d h
    · obtain rfl : d = c := by simpa using h
      exact hc
end Go.Proofs.YtojkbhkjnhhkoaaGreat.Nod
namespace Go.Proofs.YtojkbhkjnhhkoaaGreat.Nod
open Go.RowKit

set_option maxRecDepth 100000 in
set_option maxHeartbeats 400000 in
theorem room_any (v : Value) (LL : List (List Nat)) (w : World) (hv : Cells w v LL) (hn : M.need LL ≤ 1000000000) :
    Calls Tryz.prog 71 #[v] w fun e w' => e = .returned (.int .i64 (M.room LL)) ∧ Below w.heap.size w w' := by
  obtain ⟨⟨a, ca, rfl, ha⟩, hma⟩ := hv
  have HN := Hid.mk' hn
  clear hn
  go_enter Tryz.func71, Tryz.ntmps71
  go_wp2
  go_loopw [3, 8] (fun t i wr => ∃ (k : Nat) (r : Int), k ≤ LL.length ∧ i = .int .i64 k ∧ t = .int .i64 r ∧ r - (M.need (LL.drop k) : Int) = M.room LL ∧ r ≤ 505 ∧ Below w.heap.size w wr) (fun _ i _ => LL.length - (intOf i).toNat)
  case atStart => exact ⟨0, 505, by omega, rfl, rfl, by simp [M.room], by omega, Below.refl _ _⟩
  case round =>
    obtain ⟨k, r, hk, rfl, rfl, hr, hr5, hb⟩ := hrel
    have hsz := hb.size
    have HB := Hid.mk' hb
    by_cases hlt : k < LL.length
    · obtain ⟨b, o, rfl, hc⟩ := ha (by omega)
      obtain ⟨u, c1, hs⟩ := hc k hlt
      replace c1 := cell_on hb c1
      have hd := M.need_drop LL hlt
      have hN := HN.out
      have hs9 := M.size_le (LL.getD k []).length
      unfold M.body at hd
      have hrm : M.room LL = 505 - (M.need LL : Int) := rfl
      obtain ⟨ua, uc, rfl⟩ := hs.slice
      generalize (LL.getD k []).length = n at *
      clear hc ha hs hb
      have hR : Hid (r - (2 + (M.size n : Int) + n) - (M.need (LL.drop (k + 1)) : Int) = M.room LL) := by show _ = _; omega
      have hr0 : -1000000000 ≤ r := by omega
      have hn9 : n ≤ 1000000600 := by omega
      clear hr hd hrm
      have HP := Hid.mk' (put_any (n : Int) (by omega) (by omega) wr)
      go_wp2_with fail
      refine HP.out.mono ?_
      rintro e w2 ⟨v2, rfl, ho2, hb2⟩
      rw [Int.toNat_natCast] at ho2
      obtain ⟨va, vc, hv2, _⟩ := owned_rows (P := Tryz.prog) ho2
      subst hv2
      have HB2 := Hid.mk' (HB.out.trans (hb2.mono hsz))
      clear ho2 hb2
      go_wp2
      go_roundw
      case rel => exact ⟨k + 1, r - (2 + (M.size n : Int) + n), by omega, by go_num, by go_num, hR.out, by omega, HB2.out⟩
      case measure => simp [intOf]; omega
    · have e : LL.drop k = [] := List.drop_of_length_le (by omega)
      rw [e] at hr
      have HR : Hid (r = M.room LL) := by show _ = _; rw [← hr]; show r = r - 0; omega
      clear hr e ha
      go_wp2
      go_ret
      exact ⟨ret_int HR.out, HB.out⟩

/-- What heavy tells. -/
def HvP (LL : List (List Nat)) (l : List Nat) (w : World) (e : Ending) (w' : World) : Prop := ∃ r : Bool, e = .returned (.bool r) ∧ (r = false → LL.length ≤ 300 ∧ l.length + M.sumlen LL ≤ 3000) ∧ Below w.heap.size w w'
end Go.Proofs.YtojkbhkjnhhkoaaGreat.Nod
namespace Go.Proofs.YtojkbhkjnhhkoaaGreat.Nod
open Go.RowKit

theorem u64_wrap (n : Nat) (h : n ≤ 9223372036854775807) : IntKind.u64.wrap (n : Int) = n := by
  simp only [IntKind.wrap, IntKind.bits, IntKind.signed]
  simp
  omega
theorem i64_wrap (n : Int) (h : n ≤ 9223372036854775807) (h0 : -9223372036854775808 ≤ n) : IntKind.i64.wrap n = n := by
  simp only [IntKind.wrap, IntKind.bits, IntKind.signed]
  simp
  omega

end Go.Proofs.YtojkbhkjnhhkoaaGreat.Nod
namespace Go.Proofs.YtojkbhkjnhhkoaaGreat.Nod
open Go.RowKit

set_option maxRecDepth 100000 in
set_option maxHeartbeats 400000 in
theorem enc_form (kind next : Int) (v : Value) (w : World) (h : kind < 0 ∨ 256 ≤ kind ∨ next < 0 ∨ 4294967296 ≤ next) :
    Calls Tryz.prog 38 #[.int .i64 kind, .int .i64 next, v] w fun e w' => e = .returned (.tuple #[.slice none 0 0, .int .i64 1]) ∧ w' = w := by
  by_cases h1 : kind < 0
  all_goals by_cases h2 : 256 ≤ kind
  all_goals by_cases h3 : next < 0
  all_goals by_cases h4 : 4294967296 ≤ next
  all_goals try (exfalso; omega)
  all_goals
    clear h
    go_enter Tryz.func38, Tryz.ntmps38
    go_wp2
    go_ret2
    exact ⟨rfl, rfl⟩

set_option maxRecDepth 100000 in
set_option maxHeartbeats 400000 in
theorem enc_limit (kind next : Nat) (v : Value) (LL : List (List Nat)) (w : World) (hv : Cells w v LL) (hn : M.need LL ≤ 1000000000) (hk : kind < 256) (hx : next < 4294967296) (hr : M.room LL < 0) :
    Calls Tryz.prog 38 #[.int .i64 kind, .int .i64 next, v] w fun e w' => e = .returned (.tuple #[.slice none 0 0, .int .i64 7]) ∧ Below w.heap.size w w' := by
  have HR := Hid.mk' (room_any v LL w hv hn)
  obtain ⟨a, c, rfl⟩ := hv.slice
  clear hv
  go_enter Tryz.func38, Tryz.ntmps38
  go_wp2_with fail
  refine HR.out.mono ?_
  rintro e w1 ⟨rfl, hb1⟩
  go_wp2
  go_ret2
  exact ⟨rfl, hb1⟩

set_option maxRecDepth 100000 in
set_option maxHeartbeats 1000000 in
theorem enc_ok (kind next : Nat) (v : Value) (LL : List (List Nat)) (w : World) (hv : Cells w v LL) (hk : kind < 256) (hx : next < 4294967296) (hr : 0 ≤ M.room LL) :
    Calls Tryz.prog 38 #[.int .i64 kind, .int .i64 next, v] w fun e w' => ∃ g, e = .returned (.tuple #[.slice (some ⟨g, 0, none⟩) 512 512, .int .i64 0]) ∧ w.heap.size ≤ g ∧ Pg w' g (M.page kind next LL) ∧ Below w.heap.size w w' := by
  have hnd : M.need LL ≤ 505 := by unfold M.room at hr; omega
  have HR := Hid.mk' (room_any v LL w hv (by omega))
  obtain ⟨⟨a, ca, rfl, ha⟩, hma⟩ := hv
  have hmk := make_page
  have hnb := M.need_bodies LL
  have hlen : LL.length ≤ 252 := by omega
  go_enter Tryz.func38, Tryz.ntmps38
  go_wp2_with fail
  refine HR.out.mono ?_
  rintro e w1 ⟨rfl, hb1⟩
  have hz1 := hb1.size
  clear HR
  go_upto_region 6 with fail
  have HP := Hid.mk' (Pg.new w1 (fun _ => 0))
  obtain ⟨w2, hw2⟩ : ∃ w2, w1.alloc (.cells ((M.pg fun _ => 0).map B8).toArray 5) = w2 := ⟨_, rfl⟩
  have hb2 : Below w.heap.size w w2 := by rw [← hw2]; exact hb1.alloc hz1 _
  rw [hw2] at HP ⊢
  obtain ⟨g, hg⟩ : ∃ g, w1.heap.size = g := ⟨_, rfl⟩
  rw [hg] at HP ⊢
  have hwg : w.heap.size ≤ g := by omega
  clear hw2 hg hmk hz1 hb1
  have c1 := HP.out.cell (i := 0) (by omega)
  have c2 := HP.out.loose 0
  go_upto_region 7 with fail
  have HP3 := Hid.mk' (HP.out.put 0 kind)
  have HB3 := Hid.mk' (hb2.setCell (p := ⟨g, 0, none⟩) hwg (.int .u8 (kind : Nat)))
  generalize w2.setCell ⟨g, 0, none⟩ (.int .u8 (kind : Nat)) = w3 at *
  clear c1 c2 hb2 HP
  have HN1 := Hid.mk' (putNumber_any g 1 2 511 LL.length _ w3 HP3.out (by omega) (by omega) (by omega))
  go_wp2_with fail
  refine HN1.out.mono ?_
  rintro e w4 ⟨rfl, hP4, hF4⟩
  have HB4 := Hid.mk' (HB3.out.trans (hF4.below HB3.out.size (fun q hq => by simp at hq; omega)))
  clear HN1 HP3 hF4
  have HN2 := Hid.mk' (putNumber_any g 3 4 509 next _ w4 hP4 (by omega) (by omega) hx)
  clear hP4
  go_wp2_with fail
  refine HN2.out.mono ?_
  rintro e w5 ⟨rfl, hP5, hF5⟩
  have HB5 := Hid.mk' (HB4.out.trans (hF5.below HB4.out.size (fun q hq => by simp at hq; omega)))
  have HP5 : Hid (Pg w5 g (M.head kind next LL.length)) := hP5
  clear HN2 hF5 HB3 HB4 hP5
  go_wp2
  go_loopw [9, 10, 49] (fun s p i wr => ∃ (k pl : Nat) (f : Nat → Nat) (z : Int), k ≤ LL.length ∧ i = .int .i64 k ∧ s = .int .i64 z ∧ z = 7 + 2 * (k : Int) ∧ p = .int .i64 pl ∧ Pg wr g f ∧ M.lay f (7 + 2 * k) pl (LL.drop k) = M.page kind next LL ∧ 7 + 2 * LL.length + M.bodies (LL.drop k) ≤ pl ∧ pl ≤ 512 ∧ Below w.heap.size w wr) (fun _ _ i _ => LL.length - (intOf i).toNat)
  case atStart => exact ⟨0, 512, _, _, by omega, rfl, rfl, by omega, rfl, HP5.out, rfl, by simp; omega, by omega, HB5.out⟩
  case round =>
    obtain ⟨k, pl, f, z, hkl, rfl, rfl, hz, rfl, hP, hlay, hpl, hpl5, hb⟩ := hrel
    have hsz := hb.size
    have HB := Hid.mk' hb
    have HPf := Hid.mk' hP
    have HL := Hid.mk' hlay
    clear hlay hP
    by_cases hlt : k < LL.length
    · obtain ⟨b, o, rfl, hc⟩ := ha (by omega)
      obtain ⟨u, c1, hs⟩ := hc k hlt
      replace c1 := cell_on hb c1
      have hd := M.bodies_drop LL hlt
      have hgl := HPf.out.lt
      have HL2 : Hid (M.lay (M.upd (M.upd f (pl - M.body (LL.getD k [])) (M.bytes (LL.getD k []).length ++ LL.getD k [])) (7 + 2 * k) (M.be 2 (pl - M.body (LL.getD k [])))) (7 + 2 * k + 2) (pl - M.body (LL.getD k [])) (LL.drop (k + 1)) = M.page kind next LL) := by
        show _ = _
        rw [← M.lay_drop f (7 + 2 * k) pl LL hlt]
        exact HL.out
      have hs9 := M.size_le (LL.getD k []).length
      have HS := Hid.mk' (hs.below hb)
      obtain ⟨ua, uc, rfl⟩ := hs.slice
      generalize hcc : LL.getD k [] = c at *
      obtain ⟨n, hn⟩ : ∃ n, c.length = n := ⟨_, rfl⟩
      have HBd : Hid (M.body c = M.size n + n) := by show _ = _; unfold M.body; rw [hn]
      rw [HBd.out] at hd HL2
      rw [hn] at c1 HS hs9 HL2
      have HN := Hid.mk' hn
      clear hc ha hs hb hcc hn
      have HPu := Hid.mk' (put_any (n : Int) (by omega) (by omega) wr)
      go_wp2_with fail
      refine HPu.out.mono ?_
      rintro e w6 ⟨v6, rfl, ho6, hb6⟩
      rw [Int.toNat_natCast] at ho6
      obtain ⟨va, vc, hv6, _⟩ := owned_rows (P := Tryz.prog) ho6
      subst hv6
      obtain ⟨q1, e1⟩ : ∃ q1 : Nat, (pl : Int) - (n : Int) = (q1 : Int) := ⟨pl - n, by omega⟩
      have e2 : IntKind.i64.wrap (q1 : Int) = q1 := i64_wrap _ (by omega) (by omega)
      obtain ⟨q2, e3⟩ : ∃ q2 : Nat, (pl : Int) - ((M.size n : Int) + (n : Int)) = (q2 : Int) := ⟨pl - (M.size n + n), by omega⟩
      have f1 : pl - (M.size n + n) = q2 := by omega
      have f2 : q1 = q2 + M.size n := by omega
      have hs1 := M.size_pos n
      obtain ⟨a2, ha2⟩ : ∃ a2 : Option Addr, (q1 = 512 ∧ a2 = some ⟨g, 0, none⟩) ∨ (q1 ≠ 512 ∧ a2 = some ⟨g, q1, none⟩) := by
        by_cases h5 : q1 = 512
        · exact ⟨_, .inl ⟨h5, rfl⟩⟩
        · exact ⟨_, .inr ⟨h5, rfl⟩⟩
      have hF6 : Fr ([] : List Nat) wr w6 := Fr.of_below hb6
      have HP6 := Hid.mk' (HPf.out.on hF6 (by simp))
      have HS6 := Hid.mk' (owns_sees' ho6 (by omega))
      have hva : ∀ q, (Value.slice va (M.size n) vc).ownBlock = some q → wr.heap.size ≤ q := fun q hq => (ho6.lt q hq).1
      obtain ⟨w7, hcp, hP7, hF7⟩ := copy_page HP6.out (.slice ua n uc) c (HS.out.below hb6) q1 (by rw [HN.out]; omega) a2 (fun h => by rcases ha2 with h5 | h5; omega; exact h5.2)
      rw [HN.out] at hcp
      obtain ⟨w8, hcp2, hP8, hF8⟩ := copy_page hP7 (.slice va (M.size n) vc) (M.bytes n) (hF7.sees HS6.out (fun a' n' c' e hm => by have h1 := hva a'.block (by rw [e]; rfl); simp at hm; omega)) q2 (by rw [M.bytes_length]; omega) (some ⟨g, q2, none⟩) (fun _ => rfl)
      rw [M.bytes_length] at hcp2
      have HP8 : Hid (Pg w8 g (M.upd f q2 (M.bytes n ++ c))) := by
        show Pg _ _ _
        rw [← M.upd_append, M.bytes_length, ← f2]
        exact hP8
      have hz6 := hb6.size
      have HB8 := Hid.mk' (((HB.out.trans (hb6.mono hsz)).trans (hF7.below (by omega) (fun q hq => by simp at hq; omega))).trans (hF8.below (by have := hF7.2.1; omega) (fun q hq => by simp at hq; omega)))
      have HN9 := Hid.mk' (putNumber_any g (7 + 2 * k) 2 (512 - (7 + 2 * k)) q2 _ w8 HP8.out (by omega) (by omega) (by omega))
      have t1 : ¬ 512 = q2 := by omega
      have t2 : ¬ 512 = 7 + 2 * k := by omega
      have e4 : IntKind.i64.wrap (q2 : Int) = q2 := i64_wrap _ (by omega) (by omega)
      obtain ⟨s, hs⟩ : ∃ s : Nat, s = 7 + 2 * k := ⟨_, rfl⟩
      rw [← hs] at HN9 t2 HL2
      have hz' : z = (s : Int) := by omega
      have hs510 : s ≤ 510 := by omega
      rw [f1] at HL2
      subst hz'
      have HSs := Hid.mk' hs
      have HF2 := Hid.mk' f2
      clear hP7 hP8 hF7 hF8 hF6 HP6 HS6 hva ho6 HPu hz hs f1 HP8 f2
      rcases ha2 with ⟨h5, rfl⟩ | ⟨h5, rfl⟩
      · subst h5
        simp only [Nat.sub_self] at hcp
        clear e2
        go_wp2_with fail
        refine HN9.out.mono ?_
        rintro e w9 ⟨rfl, hP9, hF9⟩
        have HB9 := Hid.mk' (HB8.out.trans (hF9.below HB8.out.size (fun q hq => by simp at hq; omega)))
        clear hF9 HN9
        go_wp2
        go_roundw
        case rel => exact ⟨k + 1, q2, _, _, by omega, by go_num, rfl, by have := HSs.out; go_num, by go_num, hP9, by have h1 := HL2.out; have h2 := HSs.out; rw [show 7 + 2 * (k + 1) = s + 2 by omega]; exact h1, by omega, by omega, HB9.out⟩
        case measure => simp [intOf]; omega
      · have h5' : ¬ 512 = q1 := fun e => h5 e.symm
        go_wp2_with fail
        refine HN9.out.mono ?_
        rintro e w9 ⟨rfl, hP9, hF9⟩
        have HB9 := Hid.mk' (HB8.out.trans (hF9.below HB8.out.size (fun q hq => by simp at hq; omega)))
        clear hF9 HN9
        go_wp2
        go_roundw
        case rel => exact ⟨k + 1, q2, _, _, by omega, by go_num, rfl, by have := HSs.out; go_num, by go_num, hP9, by have h1 := HL2.out; have h2 := HSs.out; rw [show 7 + 2 * (k + 1) = s + 2 by omega]; exact h1, by omega, by omega, HB9.out⟩
        case measure => simp [intOf]; omega
    · have e : LL.drop k = [] := List.drop_of_length_le (by omega)
      have HE : Hid (f = M.page kind next LL) := by have := HL.out; rw [e] at this; exact this
      clear e ha hb
      go_wp2
      go_ret2
      exact ⟨g, rfl, hwg, by rw [← HE.out]; exact HPf.out, HB.out⟩
end Go.Proofs.YtojkbhkjnhhkoaaGreat.Nod
