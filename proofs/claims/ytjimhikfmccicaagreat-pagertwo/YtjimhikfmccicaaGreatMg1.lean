/-
  The mathematics of disks: bytes, names, files, picks, crashes.
  What a slice shows of bytes; the contracts of cadastreref0.EqBytes and cadastreref0.CopyBytes; how bytes are read off an argument.
  The contracts of disk.isSign, isName, isLength, of strings.Compare and of the closure that find hands on.
-/
import Derived.Test.YtjimhikfmccicaaGreatRows
import Derived.WalkKit
import Derived.Lib.Bytealg
import Derived.WalkMore
import Derived.ScopeJumps
import Derived.WalkLawsBesides
import Derived.Deep.OwnRows
import Derived.Deep.QuietTactic
import Derived.BigQuiet
import Derived.ProofKit
import Derived.OpenShut
import Derived.ShutString
import Derived.ChangeOld
import Derived.Below
import Derived.Carry
import Derived.Deep.SlicePairs
import Derived.Deep.RegionHeld3
import Derived.Deep.RegionWith
import Derived.Deep.AppendSrc
import Derived.Deep.CutRange
import Derived.Laws.CopyOwn
import Derived.Laws.MakeOwn
import Derived.Laws.BitsAllLaws
import Derived.Laws.IdiomStrings
namespace Go.Proofs.YtjimhikfmccicaaGreat.M

theorem eq_of_getD (la lb : List Nat) (h : la.length = lb.length) (hk : ∀ j, j < lb.length → la.getD j 0 = lb.getD j 0) : la = lb := by
  apply List.ext_getElem h
  intro i h1 h2
  have := hk i h2
  simpa [List.getD_eq_getElem?_getD, h1, h2] using this

theorem less_irrefl : ∀ x : List UInt8, Op.bytesLess x x = false
  | [] => rfl
  | a :: x => by simp [Op.bytesLess, less_irrefl x]

theorem less_asymm : ∀ x y : List UInt8, Op.bytesLess x y = true → Op.bytesLess y x = false
  | _, [], h => by simp [Op.bytesLess] at h
  | [], _ :: _, _ => by simp [Op.bytesLess]
  | a :: x, b :: y, h => by
    simp only [Op.bytesLess, Bool.or_eq_true, decide_eq_true_eq, Bool.and_eq_true, beq_iff_eq] at h
    simp only [Op.bytesLess, Bool.or_eq_false_iff, decide_eq_false_iff_not, Bool.and_eq_false_iff, beq_eq_false_iff_ne]
    rw [UInt8.lt_iff_toNat_lt] at h ⊢
    rcases h with h | ⟨rfl, h⟩
    · exact ⟨by omega, Or.inl fun e => by rw [e] at h; omega⟩
    · exact ⟨by omega, Or.inr (less_asymm x y h)⟩

theorem less_total : ∀ x y : List UInt8, Op.bytesLess x y = false → x ≠ y → Op.bytesLess y x = true
  | [], [], _, h => absurd rfl h
  | _ :: _, [], _, _ => by simp [Op.bytesLess]
  | [], _ :: _, h, _ => by simp [Op.bytesLess] at h
  | a :: x, b :: y, h, hne => by
    simp only [Op.bytesLess, Bool.or_eq_true, decide_eq_true_eq, Bool.and_eq_true, beq_iff_eq]
    simp only [Op.bytesLess, Bool.or_eq_false_iff, decide_eq_false_iff_not, Bool.and_eq_false_iff, beq_eq_false_iff_ne] at h
    rw [UInt8.lt_iff_toNat_lt] at h ⊢
    by_cases e : a = b
    · subst e
      exact Or.inr ⟨rfl, less_total x y (by rcases h.2 with g | g; exact absurd rfl g; exact g) (fun e => hne (by rw [e]))⟩
    · have : a.toNat ≠ b.toNat := fun e' => e (UInt8.toNat_inj.1 e')
      exact Or.inl (by omega)

theorem less_trans : ∀ x y z : List UInt8, Op.bytesLess x y = true → Op.bytesLess y z = true → Op.bytesLess x z = true
  | _, _, [], _, h => by simp [Op.bytesLess] at h
  | _, [], _ :: _, h, _ => by simp [Op.bytesLess] at h
  | [], _ :: _, _ :: _, _, _ => by simp [Op.bytesLess]
  | a :: x, b :: y, c :: z, h, g => by
    simp only [Op.bytesLess, Bool.or_eq_true, decide_eq_true_eq, Bool.and_eq_true, beq_iff_eq] at h g ⊢
    rw [UInt8.lt_iff_toNat_lt] at h g ⊢
    rcases h with h | ⟨rfl, h⟩
    · rcases g with g | ⟨rfl, g⟩
      · exact Or.inl (by omega)
      · exact Or.inl h
    · rcases g with g | ⟨rfl, g⟩
      · exact Or.inl g
      · exact Or.inr ⟨rfl, less_trans x y z h g⟩

theorem toList_inj {s t : ByteArray} (h : s.toList = t.toList) : s = t := by
  rw [ByteArray.toList_eq, ByteArray.toList_eq] at h
  cases s; cases t; simp at h; simp [h]
theorem toList_data (s : ByteArray) : s.toList = s.data.toList := ByteArray.toList_eq s

/-- Names stand by their bytes. -/
def less (s t : ByteArray) : Bool := Op.bytesLess s.toList t.toList
theorem less_self (s : ByteArray) : less s s = false := less_irrefl _
theorem less_flip {s t : ByteArray} (h : less s t = true) : less t s = false := less_asymm _ _ h
theorem less_tri {s t : ByteArray} (h : less s t = false) (hne : s ≠ t) : less t s = true := less_total _ _ h (fun e => hne (toList_inj e))
theorem less_step {s t u : ByteArray} (h : less s t = true) (g : less t u = true) : less s u = true := less_trans _ _ _ h g
theorem less_ne {s t : ByteArray} (h : less s t = true) : s ≠ t := fun e => by rw [e, less_self] at h; cases h

theorem cmp_less : ∀ x y : List UInt8, Lib.compareBytes x y = if Op.bytesLess x y then -1 else if x = y then 0 else 1
  | [], [] => rfl
  | [], _ :: _ => by simp [Lib.compareBytes, Op.bytesLess]
  | _ :: _, [] => by simp [Lib.compareBytes, Op.bytesLess]
  | a :: x, b :: y => by
    rw [Lib.compareBytes, cmp_less x y]
    by_cases h : a < b
    · simp [h, Op.bytesLess]
    · by_cases g : b < a
      · have hne : a ≠ b := fun e => by rw [e] at g; exact UInt8.lt_irrefl b g
        simp [h, g, Op.bytesLess, hne]
      · have he : a = b := UInt8.le_antisymm (UInt8.not_lt.1 g) (UInt8.not_lt.1 h)
        subst he
        simp [h, Op.bytesLess]
/-- What strings.Compare says. -/
def cmp (s t : ByteArray) : Int := if less s t then -1 else if s = t then 0 else 1
theorem cmp_of (s t : ByteArray) : Lib.compareBytes s.data.toList t.data.toList = cmp s t := by
  rw [cmp_less, ← toList_data, ← toList_data]
  unfold cmp less
  by_cases h : s = t
  · subst h; simp
  · have : s.toList ≠ t.toList := fun e => h (toList_inj e)
    simp [h, this]

def bl (s : ByteArray) : List Nat := s.data.toList.map UInt8.toNat
theorem bl_length (s : ByteArray) : (bl s).length = s.size := by
  unfold bl; rw [List.length_map, Array.length_toList]; rfl
theorem bl_lt (s : ByteArray) : ∀ x ∈ bl s, x < 256 := by
  intro x h
  obtain ⟨b, _, rfl⟩ := List.mem_map.1 h
  exact b.toNat_lt

/-- A name's signs. -/
def sgn (c : Nat) : Bool := decide ((97 ≤ c ∧ c ≤ 122) ∨ (48 ≤ c ∧ c ≤ 57) ∨ c = 46 ∨ c = 45)
/-- A name. -/
def nam (s : ByteArray) : Bool := decide (1 ≤ s.size ∧ s.size ≤ 32) && (bl s).all sgn
theorem all_getD {l : List Nat} {p : Nat → Bool} (h : ∀ j, j < l.length → p (l.getD j 0) = true) : l.all p = true := by
  rw [List.all_eq_true]
  intro x hx
  obtain ⟨j, hj, rfl⟩ := List.getElem_of_mem hx
  simpa [List.getD_eq_getElem?_getD, hj] using h j hj
theorem all_not {l : List Nat} {p : Nat → Bool} {j : Nat} (hj : j < l.length) (h : p (l.getD j 0) = false) : l.all p = false := by
  rw [List.all_eq_false]
  refine ⟨l[j], List.getElem_mem hj, ?_⟩
  simpa [List.getD_eq_getElem?_getD, hj] using h

/-- Names that rise. -/
def rise (N : List ByteArray) : Prop := N.Pairwise fun a b => less a b = true
/-- How many names are below t; is t among them? -/
def pos (N : List ByteArray) (t : ByteArray) : Nat := (N.takeWhile fun a => less a t).length
def has (N : List ByteArray) (t : ByteArray) : Bool := N.any fun a => decide (a = t)
def e0 : ByteArray := ⟨#[]⟩

theorem rise_at {N : List ByteArray} (h : rise N) {i j : Nat} (hij : i < j) (hj : j < N.length) : less (N.getD i e0) (N.getD j e0) = true := by
  have := (List.pairwise_iff_getElem.1 h) i j (by omega) hj hij
  simpa [List.getD_eq_getElem?_getD, hj, show i < N.length by omega] using this
theorem pos_is (t : ByteArray) : ∀ (N : List ByteArray) (p : Nat), p ≤ N.length → (∀ j, j < p → less (N.getD j e0) t = true) → (p < N.length → less (N.getD p e0) t = false) → pos N t = p
  | [], p, h, _, _ => by
    have : p = 0 := by simpa using h
    subst this; rfl
  | a :: N, 0, _, _, h2 => by
    have h := h2 (by simp)
    simp at h
    unfold pos
    rw [List.takeWhile_cons, h]
    rfl
  | a :: N, p + 1, h, h1, h2 => by
    have ha := h1 0 (by omega)
    simp at ha
    have ih := pos_is t N p (by simpa using h) (fun j hj => by simpa using h1 (j + 1) (by omega)) (fun hp => by simpa using h2 (by simpa using hp))
    unfold pos at ih ⊢
    rw [List.takeWhile_cons, ha]
    simp [ih]
theorem getD_mem (N : List ByteArray) {i : Nat} (h : i < N.length) : N.getD i e0 ∈ N := by
  simp [List.getD_eq_getElem?_getD, h]
theorem has_at {N : List ByteArray} {t : ByteArray} {p : Nat} (hp : p < N.length) (h : N.getD p e0 = t) : has N t = true := by
  unfold has
  rw [List.any_eq_true]
  exact ⟨_, getD_mem N hp, by simpa using h⟩
theorem has_not {N : List ByteArray} {t : ByteArray} (hr : rise N) {p : Nat} (h1 : ∀ j, j < p → less (N.getD j e0) t = true) (h2 : p < N.length → less t (N.getD p e0) = true) : has N t = false := by
  unfold has
  rw [List.any_eq_false]
  intro x hm hx
  obtain rfl : x = t := by simpa using hx
  obtain ⟨j, hj, rfl⟩ := List.getElem_of_mem hm
  have e : N.getD j e0 = N[j] := by simp [List.getD_eq_getElem?_getD, hj]
  by_cases hjp : j < p
  · have := h1 j hjp
    rw [e, less_self] at this
    cases this
  · have h3 := h2 (by omega)
    by_cases hq : j = p
    · subst hq
      rw [e, less_self] at h3
      cases h3
    · have h4 := rise_at hr (i := p) (j := j) (by omega) hj
      rw [e] at h4
      have := less_flip h4
      rw [this] at h3
      cases h3

/-- n bytes: cut, or with noughts behind. -/
def sz (l : List Nat) (n : Nat) : List Nat := l.take n ++ List.replicate (n - l.length) 0
theorem sz_length (l : List Nat) (n : Nat) : (sz l n).length = n := by simp [sz]; omega
theorem sz_cut (l : List Nat) {n : Nat} (h : n ≤ l.length) : sz l n = l.take n := by simp [sz, show n - l.length = 0 by omega]
theorem sz_fill (l : List Nat) {n : Nat} (h : l.length ≤ n) : sz l n = l ++ List.replicate (n - l.length) 0 := by simp [sz, List.take_of_length_le h]
/-- b from at on, with noughts between. -/
def put (l : List Nat) (p : Nat) (b : List Nat) : List Nat := (sz l (max l.length (p + b.length))).take p ++ b ++ (sz l (max l.length (p + b.length))).drop (p + b.length)
theorem put_length (l : List Nat) (p : Nat) (b : List Nat) : (put l p b).length = max l.length (p + b.length) := by
  simp [put, sz_length]; omega

end Go.Proofs.YtjimhikfmccicaaGreat.M
namespace Go.Proofs.YtjimhikfmccicaaGreat
open Go.ChangeShapes Go.WideShapes Go.ChangeAt Go.RowKit Go.Deep

def B8 (x : Nat) : Value := .int .u8 x
theorem Tryz.info5 : (Tryz.prog.info? 5).map (fun i => (i.zero, i.size, i.bytes)) = some (some (.int .u8 0), 1, 1) := by kernel_rfl
theorem Hid.mk' {p : Prop} (h : p) : Hid p := h

/-- A scope that opens with the label to which the run goes back. -/
theorem wp_scope_head {P : Program} {a : Act} {w : World} {Q : Exit → Act → World → Prop} {body : Code} (l : Nat) (J : Act → World → Prop) (μ : Act → World → Nat) (hJ : J a w)
    (pass : ∀ a w, J a w → body.wp P (Exit.jump l (fun a' w' => J a' w' ∧ μ a' w' < μ a w) Q) a w) : (Code.scope (.seq (.label l) body)).wp P Q a w := by
  refine wp_scope_jumps (rest := .seq .skip body) l J μ (by simp [findLabel]) (wp_seq (wp_label ?_)) (fun a w h => wp_seq (wp_skip (pass a w h)))
  refine wp_mono (pass a w hJ) ?_
  intro e a' w' h
  cases e <;> first | exact h | exact ⟨h.1, h.2.1⟩

/-- A block of just n bytes, made here, is owned by the slice over it. -/
theorem owns_new (w : World) (arr : Array Value) (n base : Nat) (hb : base ≤ w.heap.size) (hn : arr.size = n) (hm : n ≤ maxLen) : (w.alloc (.cells arr 5)).ownsRow base 5 1 (.slice (some ⟨w.heap.size, 0, none⟩) n n) n arr.toList :=
  ⟨by simp [hn], .inr ⟨w.heap.size, n, arr, rfl, hb, heap_alloc_new w _, Nat.le_refl _, hm, by omega, by rw [List.take_of_length_le (by simp [hn])]⟩⟩

theorem owns_open {w : World} {base : Nat} {v : Value} {n : Nat} {xs : List Value} (h : w.ownsRow base 5 1 v n xs) (hn : 1 ≤ n) :
    ∃ g cap, v = .slice (some ⟨g, 0, none⟩) n cap ∧ base ≤ g ∧ g < w.heap.size ∧ (∀ j u, xs[j]? = some u → w.cell? ⟨g, j, none⟩ = some u) ∧ ∀ j, w.frozen? ⟨g, j, none⟩ = false := by
  rcases h.2 with ⟨_, h0⟩ | ⟨g, cap, cur, hv, hb, hg, hnc, hcm, hcs, htake⟩
  · omega
  · refine ⟨g, cap, hv, hb, (Array.getElem?_eq_some_iff.1 hg).1, ?_, ?_⟩
    · intro j u hu
      rw [cell_of_row w g j cur 5 (0, 0) hg]
      rw [← htake, List.getElem?_take] at hu
      split at hu
      · simpa using hu
      · cases hu
    · intro j
      simp [World.frozen?, hg]

theorem one_B8 (l : List Nat) : ∀ u ∈ l.map B8, u.oneCell' = true := by
  intro u hu
  obtain ⟨x, _, rfl⟩ := List.mem_map.1 hu
  rfl

/-- The slice value v shows the bytes l in the world w. -/
def Sees (w : World) (v : Value) (l : List Nat) : Prop :=
  (∃ a cap, v = .slice a l.length cap ∧ (1 ≤ l.length → ∃ b o, a = some ⟨b, o, none⟩ ∧ ∀ j, j < l.length → w.cell? ⟨b, o + j, none⟩ = some (.int .u8 (l.getD j 0 : Nat)))) ∧ l.length ≤ 9223372036854775807

theorem ret_bool {a b : Bool} (h : a = b) : Ending.returned (.bool a) = .returned (.bool b) := by rw [h]

set_option maxRecDepth 100000 in
set_option maxHeartbeats 400000 in
theorem eq_any (va vb : Value) (la lb : List Nat) (w : World) (ha : Sees w va la) (hb : Sees w vb lb) :
    Calls Tryz.prog 29 #[va, vb] w fun e w' => e = .returned (.bool (decide (la = lb))) ∧ ∃ nq, w' = w.drewN nq := by
  obtain ⟨⟨a, ca, rfl, ha⟩, hma⟩ := ha
  obtain ⟨⟨b, cb, rfl, hb⟩, hmb⟩ := hb
  by_cases hlen : la.length = lb.length
  · have hne : ((la.length : Int) != (lb.length : Int)) = false := by simp [hlen]
    have HLen := Hid.mk' hlen
    rw [hlen] at hne hma ha ⊢
    clear hlen
    by_cases hz : 1 ≤ lb.length
    · obtain ⟨ab, ao, rfl, hca⟩ := ha hz
      obtain ⟨bb, bo, rfl, hcb⟩ := hb hz
      clear ha hb
      go_enter Tryz.func29, Tryz.ntmps29
      go_wp2
      go_loopw [5] (fun i wr => ∃ (k nq : Nat), k ≤ lb.length ∧ i = .int .i64 k ∧ wr = w.drewN nq ∧ ∀ j, j < k → la.getD j 0 = lb.getD j 0) (fun i _ => lb.length - (intOf i).toNat)
      case atStart => exact ⟨0, 0, by omega, rfl, rfl, fun j hj => by omega⟩
      case round =>
        obtain ⟨k, nq, hk, rfl, rfl, hall⟩ := hrel
        have HA := Hid.mk' hall
        clear hall
        by_cases hlt : k < lb.length
        · have c1 := hca k hlt
          have c2 := hcb k hlt
          have H1 := Hid.mk' hca
          have H2 := Hid.mk' hcb
          clear hca hcb
          by_cases he : la.getD k 0 = lb.getD k 0
          · have hn : (((la.getD k 0 : Nat) : Int) != ((lb.getD k 0 : Nat) : Int)) = false := by rw [he]; simp
            have HE := Hid.mk' he
            clear he
            generalize hx : la.getD k 0 = x at *
            generalize hy : lb.getD k 0 = y at *
            have HX := Hid.mk' hx
            have HY := Hid.mk' hy
            clear hx hy
            go_wp2
            go_quiet (fail)
            go_wp2
            go_roundw
            case rel =>
              refine ⟨k + 1, _, by omega, by go_num, rfl, ?_⟩
              intro j hj
              by_cases hjk : j = k
              · subst hjk; rw [HX.out, HY.out]; exact HE.out
              · exact HA.out j (by omega)
            case measure => simp [intOf]; omega
          · have hn : (((la.getD k 0 : Nat) : Int) != ((lb.getD k 0 : Nat) : Int)) = true := by rw [bne_iff_ne]; omega
            have HE : Hid (decide (la = lb) = false) := by
              show _ = _
              rw [decide_eq_false_iff_not]; intro h; exact he (by rw [h])
            clear he
            generalize la.getD k 0 = x at *
            generalize lb.getD k 0 = y at *
            go_wp2
            go_quiet (fail)
            go_wp2
            go_ret
            exact ⟨ret_bool HE.out.symm, _, World.drewN_drewN _ _ _⟩
        · have HE : Hid (decide (la = lb) = true) := by
            show _ = _
            rw [decide_eq_true_iff]; exact M.eq_of_getD la lb HLen.out (fun j hj => HA.out j (by omega))
          go_wp2
          go_ret
          exact ⟨ret_bool HE.out.symm, _, rfl⟩
    · have HE : Hid (decide (la = lb) = true) := by
        show _ = _
        rw [decide_eq_true_iff]; exact M.eq_of_getD la lb HLen.out (fun j hj => by omega)
      have hz0 : lb.length = 0 := by omega
      rw [hz0] at *
      clear hz0 ha hb
      go_enter Tryz.func29, Tryz.ntmps29
      go_wp2
      refine wp_loop_rounds 1 ?_
      rw [rounds_succ]
      go_wp2
      go_ret
      exact ⟨ret_bool HE.out.symm, 0, rfl⟩
  · have hne : ((la.length : Int) != (lb.length : Int)) = true := by simp; omega
    have HE : Hid (decide (la = lb) = false) := by
      show _ = _
      rw [decide_eq_false_iff_not]; intro h; exact hlen (by rw [h])
    clear hlen ha hb
    go_enter Tryz.func29, Tryz.ntmps29
    go_wp2
    go_ret
    exact ⟨ret_bool HE.out.symm, 0, rfl⟩

theorem cell_on {w wx : World} {a : Addr} {v : Value} (hb : Below w.heap.size w wx) (h : w.cell? a = some v) : wx.cell? a = some v := (hb.cell (World.block_lt_of_cell? _ _ h)).trans h

theorem Sees.below {w w' : World} {v : Value} {l : List Nat} (h : Sees w v l) (hb : Below w.heap.size w w') : Sees w' v l := by
  obtain ⟨⟨a, cap, rfl, hc⟩, hm⟩ := h
  refine ⟨⟨a, cap, rfl, fun h1 => ?_⟩, hm⟩
  obtain ⟨b, o, rfl, hj⟩ := hc h1
  refine ⟨b, o, rfl, fun j hlt => ?_⟩
  have := hj j hlt
  rw [hb.cell (p := ⟨b, o + j, none⟩) (World.block_lt_of_cell? w _ this)]
  exact this

theorem Sees.drewN {w : World} {v : Value} {l : List Nat} (h : Sees w v l) (n : Nat) : Sees (w.drewN n) v l := by
  obtain ⟨⟨a, cap, rfl, hc⟩, hm⟩ := h
  refine ⟨⟨a, cap, rfl, fun h1 => ?_⟩, hm⟩
  obtain ⟨b, o, rfl, hj⟩ := hc h1
  exact ⟨b, o, rfl, fun j hlt => by simpa using hj j hlt⟩

theorem Sees.drew {w : World} {v : Value} {l : List Nat} (h : Sees w v l) : Sees w.drew v l := h.drewN 1

theorem owns_sees {w : World} {base : Nat} {v : Value} {n : Nat} {l : List Nat} (h : w.ownsRow base 5 1 v n (l.map B8)) (hn : 1 ≤ n) (hm : n ≤ 9223372036854775807) : Sees w v l := by
  have hl : l.length = n := by simpa using h.1
  obtain ⟨g, cap, rfl, _, _, hc, _⟩ := owns_open h hn
  refine ⟨⟨some ⟨g, 0, none⟩, cap, by rw [hl], fun _ => ⟨g, 0, rfl, fun j hj => ?_⟩⟩, by omega⟩
  rw [Nat.zero_add]
  refine hc j _ ?_
  simp [List.getElem?_map, List.getElem?_eq_getElem hj, List.getD_eq_getElem?_getD, B8]

/-- A slice's length is within its capacity. -/
def Roomy (v : Value) : Prop := ∃ a n c, v = .slice a n c ∧ n ≤ c

theorem Sees.take {w : World} {a : Option Addr} {n cap : Nat} {l : List Nat} (h : Sees w (.slice a n cap) l) (k : Nat) (hk : k ≤ l.length) : Sees w (.slice a k cap) (l.take k) := by
  obtain ⟨⟨a', c', he, hc⟩, hm⟩ := h
  obtain ⟨rfl, _, rfl⟩ : a = a' ∧ n = l.length ∧ cap = c' := by simpa using he
  have hl : (l.take k).length = k := by simp; omega
  refine ⟨⟨a, cap, by rw [hl], fun h1 => ?_⟩, by omega⟩
  rw [hl] at h1
  obtain ⟨b, o, rfl, hj⟩ := hc (by omega)
  refine ⟨b, o, rfl, fun j hj' => ?_⟩
  rw [hl] at hj'
  rw [hj j (by omega)]
  simp [List.getD_eq_getElem?_getD, hj']

theorem owns_sees' {w : World} {base : Nat} {v : Value} {n : Nat} {l : List Nat} (h : w.ownsRow base 5 1 v n (l.map B8)) (hm : n ≤ 9223372036854775807) : Sees w v l := by
  by_cases hn : 1 ≤ n
  · exact owns_sees h hn hm
  · have hl : l.length = n := by simpa using h.1
    have h0 : l.length = 0 := by omega
    rcases h.2 with ⟨rfl, _⟩ | ⟨g, cap, cur, rfl, _⟩
    · exact ⟨⟨none, 0, by rw [h0], fun h => by omega⟩, by omega⟩
    · exact ⟨⟨some ⟨g, 0, none⟩, cap, by rw [hl], fun h => by omega⟩, by omega⟩

theorem Sees.drop0 {w : World} {a : Option Addr} {ca m : Nat} {l : List Nat} (k : Nat) (hk : l.length ≤ k) (hm : m = 0) : Sees w (.slice a m ca) (l.drop k) := by
  have e : l.drop k = [] := List.drop_of_length_le hk
  rw [e]
  subst hm
  exact ⟨⟨a, ca, rfl, fun h => by simp at h⟩, by simp⟩

theorem owns_keep {w w' : World} {base : Nat} {e : TypeId} {size : Nat} {v : Value} {n : Nat} {xs : List Value} (h : w.ownsRow base e size v n xs) (hb : Below w.heap.size w w') : w'.ownsRow base e size v n xs := by
  refine ⟨h.1, ?_⟩
  rcases h.2 with h0 | ⟨g, cap, cur, hv, hg, hh, hr⟩
  · exact .inl h0
  · exact .inr ⟨g, cap, cur, hv, hg, by rw [hb.block g (Array.getElem?_eq_some_iff.1 hh).1]; exact hh, hr⟩

end Go.Proofs.YtjimhikfmccicaaGreat
namespace Go.Proofs.YtjimhikfmccicaaGreat
open Go.RowKit

theorem ret_int {a b : Int} (h : a = b) : Ending.returned (.int .i64 a) = .returned (.int .i64 b) := by rw [h]

set_option maxRecDepth 100000 in
set_option maxHeartbeats 400000 in
theorem sign_any (c : Nat) (w : World) : Calls Tryz.prog 84 #[.int .u8 c] w fun e w' => e = .returned (.bool (M.sgn c)) ∧ w' = w := by
  go_enter Tryz.func84, Tryz.ntmps84
  go_wp2
  all_goals
    go_ret
    refine ⟨ret_bool ?_, rfl⟩
    unfold M.sgn
    rw [Bool.eq_iff_iff]
    simp at *
    omega

set_option maxRecDepth 100000 in
set_option maxHeartbeats 400000 in
theorem length_any (n : Int) (w : World) : Calls Tryz.prog 54 #[.int .i64 n] w fun e w' => e = .returned (.bool (decide (0 ≤ n ∧ n ≤ 4194304))) ∧ w' = w := by
  go_enter Tryz.func54, Tryz.ntmps54
  go_wp2
  all_goals
    go_ret
    simp_all
    try omega

/-- A string's bytes in new memory. -/
theorem conv_back (w : World) (s : ByteArray) (hs : s.size ≤ 4096) : ∃ v' w', (convert 9 54 (.string s)).run Tryz.prog w = .ok v' w' ∧ Sees w' v' (M.bl s) ∧ Below w.heap.size w w' := by
  refine ⟨_, _, run_bytes_of_string w 9 54 5 s Tryz.underlying9 Tryz.underlying54 Tryz.underlying5, ?_, ((Below.refl _ _).drew).alloc (by simp) _⟩
  refine ⟨⟨some ⟨w.heap.size, 0, none⟩, _, by rw [M.bl_length], fun h => ⟨w.heap.size, 0, rfl, fun j hj => ?_⟩⟩, by rw [M.bl_length]; omega⟩
  rw [M.bl_length] at hj
  rw [Nat.zero_add]
  have := World.cell?_alloc_mark w.drew (bytesRow s (grownCap w s.size 0 5)) 5 ((bytesRow s (grownCap w s.size 0 5)).size, (bytesRow s (grownCap w s.size 0 5)).size + 1) j
  refine Eq.trans this ?_
  rw [bytesRow_at s _ j hj]
  congr 2
  have hj' : j < s.data.toList.length := by rw [Array.length_toList]; exact hj
  simp [M.bl, List.getD_eq_getElem?_getD]
  rw [Array.getElem?_eq_getElem hj]
  rfl

set_option maxRecDepth 100000 in
set_option maxHeartbeats 400000 in
theorem name_any (s : ByteArray) (w : World) : Calls Tryz.prog 53 #[.string s] w fun e w' => e = .returned (.bool (M.nam s)) ∧ Below w.heap.size w w' := by
  by_cases h0 : s.size = 0
  · have HE : Hid (M.nam s = false) := by show _ = _; unfold M.nam; rw [h0]; rfl
    have hz : ((s.size : Int) == 0) = true := by rw [h0]; rfl
    clear h0
    go_enter Tryz.func53, Tryz.ntmps53
    go_wp2
    go_ret
    exact ⟨ret_bool HE.out.symm, Below.refl _ _⟩
  · have hz : ((s.size : Int) == 0) = false := by rw [beq_eq_false_iff_ne]; omega
    by_cases h1 : 32 < s.size
    · have HE : Hid (M.nam s = false) := by
        show _ = _
        unfold M.nam
        rw [show decide (1 ≤ s.size ∧ s.size ≤ 32) = false by rw [decide_eq_false_iff_not]; omega]
        rfl
      have hg : decide ((32 : Int) < (s.size : Int)) = true := by rw [decide_eq_true_iff]; omega
      clear h0
      go_enter Tryz.func53, Tryz.ntmps53
      go_wp2
      go_ret
      exact ⟨ret_bool HE.out.symm, Below.refl _ _⟩
    · have hg : decide ((32 : Int) < (s.size : Int)) = false := by rw [decide_eq_false_iff_not]; omega
      obtain ⟨v', w1, hr, hsee, hb⟩ := conv_back w s (by omega)
      have hlen := M.bl_length s
      have HB := Hid.mk' (M.bl_lt s)
      have HN : Hid (M.nam s = (M.bl s).all M.sgn) := by
        show _ = _
        unfold M.nam
        rw [show decide (1 ≤ s.size ∧ s.size ≤ 32) = true by rw [decide_eq_true_iff]; omega]
        rfl
      generalize M.bl s = l at *
      obtain ⟨⟨a, ca, rfl, ha⟩, hma⟩ := hsee
      have HH : Hid (1 ≤ l.length) := by show _ ≤ _; omega
      obtain ⟨ab, ao, rfl, hc⟩ := ha (by omega)
      have HL := Hid.mk' hlen
      clear ha h0 h1 hlen
      go_enter Tryz.func53, Tryz.ntmps53
      go_wp2
      go_loopw [16] (fun i wr => ∃ k : Nat, k ≤ l.length ∧ i = .int .i64 k ∧ wr = w1 ∧ ∀ j, j < k → M.sgn (l.getD j 0) = true) (fun i _ => l.length - (intOf i).toNat)
      case atStart => exact ⟨0, by omega, rfl, rfl, fun j hj => by omega⟩
      case round =>
        obtain ⟨k, hk, rfl, rfl, hall⟩ := hrel
        have HA := Hid.mk' hall
        clear hall
        by_cases hlt : k < l.length
        · have c1 := hc k hlt
          cases hsg : M.sgn (l.getD k 0)
          · have HE : Hid (M.nam s = false) := by show _ = _; rw [HN.out]; exact M.all_not hlt hsg
            have HS := Hid.mk' (sign_any (l.getD k 0) wr)
            rw [hsg] at HS
            clear hsg hc
            generalize l.getD k 0 = x at *
            go_wp2_with fail
            refine HS.out.mono ?_
            rintro e w' ⟨rfl, rfl⟩
            go_wp2
            go_ret
            exact ⟨ret_bool HE.out.symm, hb⟩
          · have HS := Hid.mk' (sign_any (l.getD k 0) wr)
            rw [hsg] at HS
            have HK := Hid.mk' hsg
            have HC := Hid.mk' hc
            clear hsg hc
            obtain ⟨x, hx⟩ : ∃ x, l.getD k 0 = x := ⟨_, rfl⟩
            have HX := Hid.mk' hx
            rw [hx] at c1 HS
            clear hx
            go_wp2_with fail
            refine HS.out.mono ?_
            rintro e w' ⟨rfl, rfl⟩
            go_wp2
            go_roundw
            case rel =>
              refine ⟨k + 1, by omega, by go_num, by trivial, ?_⟩
              intro j hj
              by_cases hjk : j = k
              · subst hjk; exact HK.out
              · exact HA.out j (by omega)
            case measure => simp [intOf]; omega
        · have HE : Hid (M.nam s = true) := by show _ = _; rw [HN.out]; exact M.all_getD (fun j hj => HA.out j (by omega))
          go_wp2
          go_ret
          exact ⟨ret_bool HE.out.symm, hb⟩

set_option maxRecDepth 100000 in
set_option maxHeartbeats 400000 in
theorem cmpstr_any (s t : ByteArray) (w : World) : Calls Tryz.prog 156 #[.string s, .string t] w fun e w' => e = .returned (.int .i64 (M.cmp s t)) ∧ w' = w := by
  go_enter Tryz.func156, Tryz.ntmps156
  go_wp2
  rw [run_callFunc_extern Tryz.func159 (by kernel_rfl) (by kernel_rfl) (by kernel_rfl) (e := Extern.BytealgCompare.compare) (by kernel_rfl), Lib.run_compareString]
  simp only [Result.andThen]
  rw [Oper.upon_value]
  go_wp2
  go_ret
  exact ⟨ret_int (M.cmp_of s t), rfl⟩

set_option maxRecDepth 100000 in
set_option maxHeartbeats 400000 in
theorem compare_any (s t : ByteArray) (w : World) : Calls Tryz.prog 147 #[.string s, .string t] w fun e w' => e = .returned (.int .i64 (M.cmp s t)) ∧ w' = w := by
  go_enter Tryz.func147, Tryz.ntmps147
  go_wp2_with (go_at_call 156; refine (cmpstr_any _ _ _).mono ?_; rintro e w' ⟨rfl, rfl⟩)
  go_ret
  exact ⟨rfl, rfl⟩

set_option maxRecDepth 100000 in
set_option maxHeartbeats 400000 in
theorem find1_any (s t : ByteArray) (u v : Value) (w : World) : Calls Tryz.prog 146 #[.agg #[.string s, u, v], .string t] w fun e w' => e = .returned (.int .i64 (M.cmp s t)) ∧ Below w.heap.size w w' := by
  go_enter Tryz.func146, Tryz.ntmps146
  go_wp2_with (go_at_call 147; refine (compare_any _ _ _).mono ?_; rintro e w' ⟨rfl, rfl⟩)
  go_ret
  exact ⟨rfl, (Below.refl _ _).alloc (Nat.le_refl _) _⟩
end Go.Proofs.YtjimhikfmccicaaGreat
