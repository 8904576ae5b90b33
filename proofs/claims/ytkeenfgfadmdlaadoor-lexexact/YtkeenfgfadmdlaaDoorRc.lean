/-
  The contract of the reference's blob.
-/
import Derived.Test.YtkeenfgfadmdlaaDoorRb
namespace Go.Proofs.YtkeenfgfadmdlaaDoor
open Go.ChangeShapes Go.WideShapes Go.ChangeAt Go.RowKit Go.Deep

def unhex : List UInt8 → Option (List UInt8)
  | [] => some []
  | [_] => none
  | c :: d :: r => match L.hx c, L.hx d with
    | some x, some y => (unhex r).map (UInt8.ofNat (16 * x + y) :: ·)
    | _, _ => none

theorem unhex_odd : ∀ {X : List UInt8}, X.length % 2 = 1 → unhex X = none
  | [], h => by simp at h
  | [_], _ => rfl
  | c :: d :: r, h => by
    rw [unhex, unhex_odd (X := r) (by simp at h; omega)]
    cases L.hx c <;> cases L.hx d <;> rfl

theorem hxv_some {c : UInt8} {x : Nat} (h : L.hx c = some x) : hxv c = (x : Int) := by unfold hxv; rw [h]
theorem hxv_none {c : UInt8} (h : L.hx c = none) : hxv c = -1 := by unfold hxv; rw [h]
theorem hx_lt {c : UInt8} {x : Nat} (h : L.hx c = some x) : x < 16 := (hex_yes c x h).2

set_option maxRecDepth 100000 in
set_option maxHeartbeats 2000000 in
theorem rblob_any (X : List UInt8) (hX : X.length ≤ 100000) (w : World) :
    Calls Tryd.prog 27 #[.string (S X)] w fun e w' => ((unhex X = none ∧ e = .returned (.tuple #[.string ⟨#[]⟩, .bool false])) ∨ ∃ b, unhex X = some b ∧ e = .returned (.tuple #[.string (S b), .bool true])) ∧ Below w.heap.size w w' := by
  have hsz : (S X).size = X.length := rfl
  have hD := Hid.mk' (drop_at X)
  obtain ⟨s, hs⟩ : ∃ s, S X = s := ⟨_, rfl⟩
  rw [hs] at hsz ⊢
  have HD : Hid (∀ (i : Nat) (h : i < s.size), X.drop i = s[i] :: X.drop (i + 1)) := by subst hs; exact hD.out
  clear hs hD
  have HS := Hid.mk' hsz
  have hs9 : s.size ≤ 100000 := by omega
  by_cases hodd : X.length % 2 = 1
  · have HE := Hid.mk' (unhex_odd hodd)
    have t1 : (((s.size : Int) % 2) == 1) = true := by rw [hsz]; simp; omega
    clear hodd hsz
    go_enter Tryd.func27, Tryd.ntmps27
    go_wp2
    go_ret2
    exact ⟨.inl ⟨HE.out, rfl⟩, Below.refl _ _⟩
  · have t1 : (((s.size : Int) % 2) == 1) = false := by
      rw [hsz, beq_eq_false_iff_ne]
      omega
    have hev : s.size % 2 = 0 := by omega
    clear hsz hodd
    go_enter Tryd.func27, Tryd.ntmps27
    go_wp2
    go_loopw [4, 5] (fun t i wr => ∃ (j : Nat) (G : List UInt8), j ≤ s.size ∧ j % 2 = 0 ∧ i = .int .i64 j ∧ Below w.heap.size w wr ∧ wr.ownsRow w.heap.size 5 1 t G.length (G.map UC) ∧ G.length ≤ j ∧ unhex X = (unhex (X.drop j)).map (G ++ ·)) (fun _ i _ => s.size - (intOf i).toNat)
    case atStart => exact ⟨0, [], by omega, rfl, rfl, Below.refl _ _, World.ownsRow_nil _ _ _ _, by simp, by rw [List.drop_zero]; cases unhex X <;> simp⟩
    case round =>
      obtain ⟨j, G, hj, hje, rfl, hb, ho, hGj, hQ⟩ := hrel
      have hw := hb.size
      by_cases hjl : j < s.size
      · have hj2 : j + 1 < s.size := by omega
        have hd := HD.out j hjl
        have hd2 := HD.out (j + 1) hj2
        obtain ⟨c, hc⟩ : ∃ c, s[j] = c := ⟨_, rfl⟩
        obtain ⟨d, hdd⟩ : ∃ d, s[j + 1] = d := ⟨_, rfl⟩
        rw [hc] at hd
        rw [hdd] at hd2
        rw [hd2] at hd
        rw [hd, unhex] at hQ
        have t2 : (j : Int) < (s.size : Int) := by omega
        have t3 : (j : Int) + 1 < (s.size : Int) := by omega
        have H1 := fun w => rhex_is c w
        have H2 := fun w => rhex_is d w
        have hways : (∃ x y, L.hx c = some x ∧ L.hx d = some y) ∨ ((L.hx c = none ∨ ∃ x, L.hx c = some x ∧ L.hx d = none)) := by
          cases L.hx c <;> cases L.hx d <;> simp
        rcases hways with ⟨x, y, hx, hy⟩ | hbad
        · rw [hxv_some hx] at H1
          rw [hxv_some hy] at H2
          rw [hx, hy] at hQ
          have lx := hx_lt hx
          have ly := hx_lt hy
          have hQ2 : unhex X = (unhex (X.drop (j + 1 + 1))).map ((G ++ [UInt8.ofNat (16 * x + y)]) ++ ·) := by
            rw [hQ]
            show ((unhex (X.drop (j + 1 + 1))).map _).map _ = _
            cases unhex (X.drop (j + 1 + 1)) <;> simp
          have HQ2 := Hid.mk' hQ2
          have hcv : ((UInt8.ofNat (16 * x + y)).toNat : Int) = 16 * (x : Int) + (y : Int) := by
            simp
            omega
          have HA' := app8 wr w.heap.size _ _ G (UInt8.ofNat (16 * x + y)) ho (by omega) hw
          rw [hcv] at HA'
          have HA := Hid.mk' HA'
          have n1 : ¬ (x : Int) < 0 := by omega
          have n2 : ¬ (y : Int) < 0 := by omega
          clear hQ hQ2 hd hd2 ho hx hy HA' hcv
          go_wp2_with (first
            | (go_at_call 40; refine (H1 _).mono ?_; rintro e w1 ⟨rfl, hw1⟩; obtain rfl := hw1.symm; clear hw1 H1)
            | (go_at_call 40; refine (H2 _).mono ?_; rintro e w1 ⟨rfl, hw1⟩; obtain rfl := hw1.symm; clear hw1)
            | (at_builtin; refine wpList_append_run rfl _ _ 37 37 rfl _ _ rfl rfl HA.out ?_; rintro v5 w5 ⟨ho5, hb5⟩))
          go_roundw
          case rel => exact ⟨j + 2, _, by omega, by omega, by go_num, hb.trans hb5, by rw [List.length_append]; exact ho5, by simp; omega, HQ2.out⟩
          case measure => simp [intOf]; omega
        · have hE : unhex X = none := by
            rw [hQ]
            rcases hbad with h | ⟨x, h1, h2⟩
            · rw [h]
              cases L.hx d <;> rfl
            · rw [h1, h2]
              rfl
          have HE := Hid.mk' hE
          have hn : hxv c < 0 ∨ (¬ hxv c < 0 ∧ hxv d < 0) := by
            rcases hbad with h | ⟨x, h1, h2⟩
            · exact .inl (by rw [hxv_none h]; omega)
            · exact .inr ⟨by rw [hxv_some h1]; omega, by rw [hxv_none h2]; omega⟩
          generalize hxv c = u at H1 hn
          generalize hxv d = v at H2 hn
          clear hQ hE hd hd2 ho hbad
          rcases hn with n1 | ⟨n1, n2⟩
          all_goals
            go_wp2_with (first
              | (go_at_call 40; refine (H1 _).mono ?_; rintro e w1 ⟨rfl, hw1⟩; obtain rfl := hw1.symm; clear hw1 H1)
              | (go_at_call 40; refine (H2 _).mono ?_; rintro e w1 ⟨rfl, hw1⟩; obtain rfl := hw1.symm; clear hw1))
            go_ret2
            exact ⟨.inl ⟨HE.out, rfl⟩, hb⟩
      · have hE : unhex X = some G := by
          rw [hQ, List.drop_eq_nil_of_le (by have := HS.out; omega)]
          simp [unhex]
        have HE := Hid.mk' hE
        have hC := conv_row ho
        obtain ⟨q, hq⟩ : ∃ q, S G = q := ⟨_, rfl⟩
        rw [hq] at hC
        have HQq := Hid.mk' hq
        have t2 : ¬ (j : Int) < (s.size : Int) := by omega
        clear hQ hE ho hq
        go_wp2
        go_ret2
        exact ⟨.inr ⟨G, HE.out, by rw [HQq.out]; rfl⟩, hb⟩
end Go.Proofs.YtkeenfgfadmdlaaDoor
