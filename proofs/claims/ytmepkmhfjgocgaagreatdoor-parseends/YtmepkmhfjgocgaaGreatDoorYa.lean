/-
  How many expressions there are in a tree, and how high it is; no more than tokens were read for it. The contract of size.
-/
import Derived.Test.YtmepkmhfjgocgaaGreatDoorZy
namespace Go.Proofs.YtmepkmhfjgocgaaGreatDoor
open Go.ChangeShapes Go.WideShapes Go.ChangeAt Go.RowKit Go.Deep

def Z.nodes : Z.Ex → Nat
  | ⟨_, _, _, _, _, _, args⟩ => all args + 1
  where
  all : List Z.Ex → Nat
    | [] => 0
    | e :: r => Z.nodes e + all r
def Z.high : Z.Ex → Nat
  | ⟨_, _, _, _, _, _, args⟩ => all args + 1
  where
  all : List Z.Ex → Nat
    | [] => 0
    | e :: r => max (Z.high e) (all r)
theorem Z.high_le : ∀ e : Z.Ex, Z.high e ≤ Z.nodes e
  | ⟨_, _, _, _, _, _, args⟩ => by
    unfold Z.high Z.nodes
    have := all args
    omega
  where
  all : ∀ l : List Z.Ex, Z.high.all l ≤ Z.nodes.all l
    | [] => by unfold Z.high.all; omega
    | e :: r => by
      unfold Z.high.all Z.nodes.all
      have := Z.high_le e
      have := all r
      omega
theorem Z.high.all_le (l : List Z.Ex) : Z.high.all l ≤ Z.nodes.all l := Z.high_le.all l
theorem Z.nodes.all_app (l r : List Z.Ex) : Z.nodes.all (l ++ r) = Z.nodes.all l + Z.nodes.all r := by
  induction l with
  | nil => simp [Z.nodes.all]
  | cons e l ih => rw [List.cons_append, Z.nodes.all, ih, Z.nodes.all]; omega

def Z.Few (F : Int → Int → List L.Tok → Int → Z.Rs Z.Ex) : Prop := ∀ n d R m x R1 m1, F n d R m = some (x, R1, m1) → Z.nodes x + R1.length ≤ R.length
theorem Z.enc_few {f : Int → List L.Tok → Int → Z.Rs Z.Ex} (hf : ∀ d R m x R1 m1, f d R m = some (x, R1, m1) → Z.nodes x + R1.length ≤ R.length) {d m m1 : Int} {R R1 : List L.Tok} {x : Z.Ex} (h : Z.enc f d R m = some (x, R1, m1)) : Z.nodes x + R1.length ≤ R.length := by
  unfold Z.enc at h
  split at h
  · cases h
  next e R2 m2 h2 =>
  have := hf _ _ _ _ _ _ h2
  split at h
  · cases h
  next R3 h3 =>
  cases h
  have := Z.tk_le h3
  omega
theorem Z.nodes_app (op : Int) (l : List Z.Ex) : Z.nodes (Z.app op l) = Z.nodes.all l + 1 := by
  unfold Z.app Z.nodes
  rfl
theorem Z.joinF_few {F : Int → Int → List L.Tok → Int → Z.Rs Z.Ex} (hF : Z.Few F) (n d : Int) : ∀ {j : Nat} {R R1 : List L.Tok} {m m1 : Int} {e x : Z.Ex}, Z.joinF F n d j R m e = some (x, R1, m1) → Z.nodes x + R1.length ≤ Z.nodes e + R.length
  | 0, _, _, _, _, _, _, h => by cases h
  | j + 1, R, R1, m, m1, e, x, h => by
    unfold Z.joinF at h
    split at h
    · cases h; exact Nat.le_refl _
    next op R2 h2 =>
    have := Z.joint_lt h2
    split at h
    · have := Z.joinF_few hF n d h
      rw [Z.nodes_app] at this
      simp only [Z.nodes.all] at this
      omega
    · split at h
      · cases h
      next b R3 m3 h3 =>
      have := hF _ _ _ _ _ _ _ h3
      have := Z.joinF_few hF n d h
      rw [Z.nodes_app] at this
      simp only [Z.nodes.all] at this
      omega
theorem Z.lv_few (k : Nat) : Z.Few (Z.lv k) := by
  induction k with
  | zero => intro n d R m x R1 m1 h; cases h
  | succ k ih =>
    have hs : ∀ {s : Z.W} {op n d : Int} {R : List L.Tok} {m : Int} {x : Z.Ex} {R1 : List L.Tok} {m1 : Int}, 1 ≤ (Lib.fields s).length → Z.signed (Z.lv k) s op n d R m = some (x, R1, m1) → Z.nodes x + R1.length ≤ R.length := by
      intro s op n d R m x R1 m1 h1 h
      unfold Z.signed at h
      split at h
      · exact ih _ _ _ _ _ _ _ h
      next R2 h2 =>
      have := Z.tk_lt h1 h2
      split at h
      · cases h
      next y R3 m3 h3 =>
      cases h
      have := ih _ _ _ _ _ _ _ h3
      rw [Z.nodes_app]
      simp only [Z.nodes.all]
      omega
    have hc : ∀ d R m x R1 m1, Z.count d R m = some (x, R1, m1) → Z.nodes x + R1.length ≤ R.length := by
      intro d R m x R1 m1 h
      unfold Z.count at h
      split at h
      · cases h
      next R2 h2 =>
      cases h
      have := Z.tk_lt (by decide) h2
      rw [Z.nodes_app]
      simp only [Z.nodes.all]
      omega
    intro n d R m x R1 m1 h
    unfold Z.lv at h
    split at h
    · exact hs (by decide) h
    split at h
    · exact hs (by decide) h
    split at h
    · unfold Z.closest at h
      split at h
      · next op R2 h2 =>
        have := Z.fun_lt h2
        split at h
        · cases h
        next y R3 m3 h3 =>
        cases h
        have := Z.enc_few (ih 0) h3
        rw [Z.nodes_app]
        simp only [Z.nodes.all]
        omega
      split at h
      · next R2 h2 => have := Z.tk_lt (by decide) h2; have := Z.enc_few hc h; omega
      split at h
      · next R2 h2 => have := Z.tk_lt (by decide) h2; have := Z.enc_few (ih 0) h; omega
      split at h
      · next R2 h2 => cases h; have := Z.tk_lt (by decide) h2; unfold Z.lit Z.nodes; simp only [Z.nodes.all]; omega
      split at h
      · next y R2 h2 =>
        cases h
        have := Z.literal_lt h2
        have hy : Z.nodes x = 1 := by
          cases R with
          | nil => cases h2
          | cons t R =>
            simp only [Z.literal] at h2
            split at h2
            · cases h2; rfl
            split at h2
            · cases h2; rfl
            split at h2
            · cases h2; rfl
            · cases h2
        omega
      split at h
      · next y R2 h2 =>
        cases h
        have := Z.place_lt h2
        have hy : Z.nodes x = 1 := by
          unfold Z.place at h2
          split at h2
          · cases h2
          split at h2
          · cases h2; rfl
          split at h2
          · cases h2
          · cases h2; rfl
        omega
      · cases h
    · unfold Z.joined at h
      split at h
      · cases h
      next y R2 m2 h2 =>
      have := ih _ _ _ _ _ _ _ h2
      have := Z.joinF_few ih n d h
      omega

theorem Z.nodes.all_drop {l : List Z.Ex} {k : Nat} {e : Z.Ex} (h : l[k]? = some e) : Z.nodes.all (l.drop k) = Z.nodes e + Z.nodes.all (l.drop (k + 1)) ∧ Z.high.all (l.drop k) = max (Z.high e) (Z.high.all (l.drop (k + 1))) := by
  obtain ⟨h1, h2⟩ := List.getElem?_eq_some_iff.1 h
  rw [List.drop_eq_getElem_cons h1, h2]
  exact ⟨by rw [Z.nodes.all], by rw [Z.high.all]⟩

/-- The expression at place k of a row. -/
theorem ShE.es.at {w : World} {ok : Nat → Prop} : ∀ {l : List Z.Ex} {row : List Value} {k : Nat} {e : Z.Ex}, ShE.es w ok l row → l[k]? = some e → ∃ cs, ShE w ok e cs ∧ ∀ j x, cs[j]? = some x → row[k * 7 + j]? = some x
  | [], _, _, _, _, h => by cases h
  | x :: l, row, 0, e, hs, h => by
    unfold ShE.es at hs
    obtain ⟨c1, c2, rfl, h1, h2⟩ := hs
    obtain rfl : x = e := by simpa using h
    refine ⟨c1, h1, fun j y hj => ?_⟩
    have hjl := (List.getElem?_eq_some_iff.1 hj).1
    rw [Nat.zero_mul, Nat.zero_add, List.getElem?_append_left hjl]
    exact hj
  | x :: l, row, k + 1, e, hs, h => by
    unfold ShE.es at hs
    obtain ⟨c1, c2, rfl, h1, h2⟩ := hs
    have hl := h1.len
    obtain ⟨cs, h3, h4⟩ := ShE.es.at h2 (by simpa using h)
    refine ⟨cs, h3, fun j y hj => ?_⟩
    rw [List.getElem?_append_right (by omega), hl, show (k + 1) * 7 + j - 7 = k * 7 + j by omega]
    exact h4 j y hj

theorem ShE.open {w : World} {ok : Nat → Prop} {e : Z.Ex} {cs : List Value} (h : ShE w ok e cs) : ∃ a c row, cs = eC e.op e.vk e.vi e.vs e.tb e.nm (.slice a e.args.length c) ∧ w.ownsRow 0 56 7 (.slice a e.args.length c) e.args.length row ∧ ShE.es w ok e.args row := by
  obtain ⟨op, vk, vi, vs, tb, nm, args⟩ := e
  unfold ShE at h
  obtain ⟨va, row, rfl, h2, h3, h4⟩ := h
  obtain ⟨a, c, rfl, _⟩ := owned_rows (P := Tryz.prog) h2
  exact ⟨a, c, row, rfl, h2, h4⟩
theorem Z.nodes_open (e : Z.Ex) : Z.nodes e = Z.nodes.all e.args + 1 ∧ Z.high e = Z.high.all e.args + 1 := by
  obtain ⟨op, vk, vi, vs, tb, nm, args⟩ := e
  exact ⟨by unfold Z.nodes; rfl, by unfold Z.high; rfl⟩

set_option maxRecDepth 100000 in
set_option maxHeartbeats 1000000 in
theorem size_any (N : Nat) : ∀ {w : World} {ok : Nat → Prop} {v : Value} {l : List Z.Ex} {row : List Value}, (∀ b, ok b → b < w.heap.size) → w.ownsRow 0 56 7 v l.length row → ShE.es w ok l row → Z.nodes.all l = N → N ≤ 1000000 →
    Calls Tryz.prog 80 #[v] w fun e w' => e = .returned (.tuple #[.int .i64 (Z.nodes.all l : Int), .int .i64 (Z.high.all l : Int)]) ∧ Below w.heap.size w w' := by
  induction N using Nat.strongRecOn with
  | _ N ih =>
    intro w ok v l row hok ho hs hl hN
    have IH := Hid.mk' ih
    have HO := Hid.mk' ho
    have HS := Hid.mk' hs
    have HK := Hid.mk' hok
    have hlh := Z.high.all_le l
    obtain ⟨A, hA⟩ : ∃ A, Z.nodes.all l = A := ⟨_, rfl⟩
    obtain ⟨H, hH⟩ : ∃ H, Z.high.all l = H := ⟨_, rfl⟩
    rw [hA] at hl hlh ⊢
    rw [hH] at hlh ⊢
    subst hl
    have HA := Hid.mk' hA
    have HH := Hid.mk' hH
    obtain ⟨a, c, rfl, hlc, _⟩ := owned_rows (P := Tryz.prog) ho
    have hcap : l.length ≤ 9223372036854775807 := by
      rcases ho.2 with ⟨_, h0⟩ | ⟨_, _, _, hv, _, _, hn, hm, _⟩
      · omega
      · unfold maxLen at hm
        omega
    clear ih ho hs hok hA hH hlc
    go_enter Tryz.func80, Tryz.ntmps80
    go_wp2
    go_loopw [2, 3, 10] (fun s2 s3 i wr => ∃ k x y : Nat, k ≤ l.length ∧ i = .int .i64 k ∧ s2 = .int .i64 x ∧ s3 = .int .i64 y ∧ Hid (x + Z.nodes.all (l.drop k) = A) ∧ Hid (max y (Z.high.all (l.drop k)) = H) ∧ x ≤ A ∧ y ≤ H ∧ Below w.heap.size w wr) (fun _ _ i _ => l.length - (intOf i).toNat)
    case atStart => exact ⟨0, 0, 0, by omega, rfl, rfl, rfl, by rw [List.drop_zero, Nat.zero_add]; exact HA, Hid.mk' (by rw [List.drop_zero, Nat.zero_max]; exact HH.out), by omega, by omega, Below.refl _ _⟩
    case round =>
      obtain ⟨k, x, y, hk, rfl, rfl, rfl, HX, HY, hx, hy, hb⟩ := hrel
      have hsz := hb.size
      by_cases hlt : k < l.length
      · obtain ⟨e, he⟩ : ∃ e, l[k]? = some e := ⟨_, List.getElem?_eq_getElem hlt⟩
        obtain ⟨g1, g2⟩ := Z.nodes.all_drop he
        obtain ⟨cs, hcs, hat⟩ := HS.out.at he
        obtain ⟨a2, c2, row2, rfl, ho2, hs2⟩ := hcs.open
        obtain ⟨n1, n2⟩ := Z.nodes_open e
        have hx1 := HX.out
        have hy1 := HY.out
        rw [g1, n1] at hx1
        rw [g2, n2] at hy1
        have HX1 := Hid.mk' hx1
        have HY1 := Hid.mk' hy1
        have hxa : x + (Z.nodes.all e.args + 1) ≤ A := by omega
        have hya : Z.high.all e.args + 1 ≤ H := by omega
        rcases HO.out.2 with ⟨_, h0⟩ | ⟨gb, cap, cu, hv, _, hh, hn, hm, hcz, htk⟩
        · omega
        obtain ⟨rfl, _, rfl⟩ := by simpa using hv
        have hcell : ∀ j u, (eC e.op e.vk e.vi e.vs e.tb e.nm (.slice a2 e.args.length c2))[j]? = some u → wr.cell? ⟨gb, k * 7 + j, none⟩ = some u := by
          intro j u hj
          have h1 := hat j u hj
          have h2 : (cu.toList.take (l.length * 7))[k * 7 + j]? = some u := by rw [htk]; exact h1
          have hj7 : j < 7 := (List.getElem?_eq_some_iff.1 hj).1
          rw [List.getElem?_take_of_lt (by omega)] at h2
          refine cellB hb ?_
          rw [cell_of_row _ _ _ _ _ _ hh]
          simpa using h2
        have q0 := hcell 0 _ rfl
        have q1 := hcell 1 _ rfl
        have q2 := hcell 2 _ rfl
        have q3 := hcell 3 _ rfl
        have q4 := hcell 4 _ rfl
        have q5 := hcell 5 _ rfl
        have q6 := hcell 6 _ rfl
        have HC := Hid.mk' (fun o : Obj => IH.out (Z.nodes.all e.args) (by omega) (w := wr.alloc o) (ok := fun b => b < w.heap.size) (v := .slice a2 e.args.length c2) (fun b hb => by simp; omega) (owns_keep ho2 (hb.alloc hsz o)) (ShE.es.on (fun b hb2 => ⟨HK.out b hb2, (hb.alloc hsz o).block b (HK.out b hb2)⟩) e.args row2 hs2) rfl (by omega))
        obtain ⟨E, hE⟩ : ∃ E, Z.nodes.all e.args = E := ⟨_, rfl⟩
        obtain ⟨D, hD⟩ : ∃ D, Z.high.all e.args = D := ⟨_, rfl⟩
        obtain ⟨L2, hL2⟩ : ∃ L2, e.args.length = L2 := ⟨_, rfl⟩
        rw [hE] at hxa HX1 HC
        rw [hD] at hya HY1 HC
        rw [hL2] at q6 HC
        clear hE hD hL2 he g1 g2 hcs hat ho2 hs2 n1 n2 hx1 hy1 hcell hh hn hm hcz htk HX HY hv
        simp only [Nat.add_zero] at q0
        go_wp2_with fail
        refine (HC.out _).mono ?_
        rintro e2 w2 ⟨rfl, hb2⟩
        have hb3 := (hb.alloc hsz _).trans (hb2.mono (by simp; omega))
        have m1 : max (y : Int) ((D : Int) + 1) = ((max y (D + 1) : Nat) : Int) := by omega
        clear hb2 HC
        go_wp2
        go_roundw
        case rel => exact ⟨k + 1, x + (E + 1), max y (D + 1), by omega, by go_num, by go_num, by go_num, Hid.mk' (by have := HX1.out; omega), Hid.mk' (by have := HY1.out; omega), by omega, by omega, hb3⟩
        case measure => simp [intOf]; omega
      · obtain rfl : k = l.length := by omega
        have hx1 := HX.out
        have hy1 := HY.out
        rw [List.drop_length] at hx1 hy1
        simp only [Z.nodes.all, Z.high.all] at hx1 hy1
        obtain rfl : x = A := by omega
        obtain rfl : y = H := by omega
        clear HX HY hx1 hy1
        go_wp2
        go_ret2
        exact ⟨rfl, hb⟩
end Go.Proofs.YtmepkmhfjgocgaaGreatDoor
