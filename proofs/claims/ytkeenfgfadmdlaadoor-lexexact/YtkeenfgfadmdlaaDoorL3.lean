/-
  LexExact: the walk.
-/
import Derived.Test.YtkeenfgfadmdlaaDoorRk
import Derived.Test.YtkeenfgfadmdlaaDoorLq
namespace Go.Proofs.YtkeenfgfadmdlaaDoor
open Go.ChangeShapes Go.WideShapes Go.ChangeAt Go.RowKit Go.Deep

theorem eqT_below (va vb : Value) (T : List L.Tok) (w : World) (ha : Shw w va T) (hb : Shw w vb T) :
    Calls Tryd.prog 10 #[va, vb] w fun e w' => e = .returned (.bool true) ∧ Below w.heap.size w w' :=
  (eqT_same va vb T w ha hb).mono fun e w' h => ⟨h.1, by obtain ⟨nq, rfl⟩ := h.2; exact below_drewN (Below.refl _ _) _⟩
theorem go_len : ∀ (n : Nat) (X : List UInt8) (T : List L.Tok), X.length ≤ n → L.spec X = some T → T.length ≤ X.length := by
  intro n
  induction n with
  | zero =>
    intro X T hn h
    obtain rfl := List.eq_nil_of_length_eq_zero (Nat.le_zero.1 hn)
    cases h
    simp
  | succ n ih =>
    intro X T hn h
    cases X with
    | nil => cases h; simp
    | cons c l =>
      rw [L.spec_cons] at h
      cases hs : L.step c l with
      | none => rw [hs] at h; cases h
      | some q =>
        rw [hs] at h
        have hlt := L.step_lt (t := q.1) (r := q.2) hs
        have h' : (L.spec q.2).map (q.1 ++ ·) = some T := h
        rw [Option.map_eq_some_iff] at h'
        obtain ⟨T', hT, he⟩ := h'
        have := ih q.2 T' (by simp at hn; omega) hT
        have h1 : q.1.length ≤ 1 := by
          unfold L.step at hs
          split at hs
          · cases hs; simp
          split at hs
          · cases hs; simp
          split at hs
          · rw [Option.map_eq_some_iff] at hs; obtain ⟨_, _, rfl⟩ := hs; simp
          split at hs
          · rw [Option.map_eq_some_iff] at hs; obtain ⟨_, _, rfl⟩ := hs; simp
          split at hs
          · cases hs; simp
          split at hs
          · split at hs
            · cases hs; simp
            · cases hs
          · rw [Option.map_eq_some_iff] at hs; obtain ⟨_, _, rfl⟩ := hs; simp
        subst he
        simp
        omega
theorem tokens_len (X : List UInt8) (h : X.length ≤ 20000) : (L.tokens X).1.length ≤ 20000 := by
  rcases L.tokens_err X with h0 | ⟨_, h0⟩
  · obtain ⟨_, h2, _⟩ := L.tokens_zero h0
    have := go_len X.length X _ (Nat.le_refl _) h2
    omega
  · rw [h0]
    simp

set_option maxRecDepth 100000 in
set_option maxHeartbeats 4000000 in
theorem exact_walk (v : Value) (n : Nat) (A : Nat → ByteArray) (w : World) (hV : Vr w) (hq : Asks w v n A) :
    Calls Tryd.prog 3 #[v] w fun e w' => e = .returned (.bool true) ∧ Below w.heap.size w w' := by
  obtain ⟨⟨a, cap, rfl, ha⟩, hm⟩ := hq
  have h2 := hV.lt
  go_enter Tryd.func3, Tryd.ntmps3
  go_wp2
  go_loopw [3] (fun i wr => ∃ k : Nat, k ≤ n ∧ k ≤ 12 ∧ i = .int .i64 k ∧ Below w.heap.size w wr) (fun i _ => 12 - (intOf i).toNat)
  case atStart => exact ⟨0, by omega, by omega, rfl, Below.refl _ _⟩
  case round =>
    obtain ⟨k, hk, hk12, rfl, hb⟩ := hrel
    have hVr := hV.on hb h2
    have hsz := hb.size
    by_cases hlt : k < n ∧ k < 12
    · obtain ⟨hkn, hk2⟩ := hlt
      obtain ⟨b, o, rfl, hc⟩ := ha (by omega)
      have hbb : b < w.heap.size := World.block_lt_of_cell? _ _ (hc k hkn).1
      obtain ⟨p1, z1⟩ := hc k hkn
      obtain ⟨X, hX⟩ : ∃ X, (A k).data.toList = X := ⟨_, rfl⟩
      rw [show A k = S X by rw [← hX]; rfl] at p1 z1
      have c1 := cell_on hb p1
      clear hX hc ha p1
      have hsx : (S X).size = X.length := rfl
      have t1 : decide ((k : Int) < (n : Int)) = true := decide_eq_true (by omega)
      have t2 : decide ((k : Int) < 12) = true := decide_eq_true (by omega)
      by_cases hl : 10000 < X.length
      · obtain ⟨x, hx⟩ : ∃ x, S X = x := ⟨_, rfl⟩
        rw [hx] at c1 hsx z1
        have t3 : decide ((10000 : Int) < (x.size : Int)) = true := decide_eq_true (by omega)
        clear hx hsx
        go_wp2
        go_ret
        exact ⟨rfl, hb⟩
      · have hlen := tokens_len X (by omega)
        have HE := tokens_any X wr hVr
        have HF := fun w => rtokens_any X (by omega) w
        obtain ⟨x, hx⟩ : ∃ x, S X = x := ⟨_, rfl⟩
        rw [hx] at c1 hsx z1 HE HF
        have t3 : decide ((10000 : Int) < (x.size : Int)) = false := decide_eq_false (by omega)
        obtain ⟨T, hT⟩ : ∃ T, (L.tokens X).1 = T := ⟨_, rfl⟩
        obtain ⟨er, hE⟩ : ∃ er, (L.tokens X).2 = er := ⟨_, rfl⟩
        rw [hT, hE] at HE HF
        rw [hT] at hlen
        have HE2 := Hid.mk' HE
        have HF2 := Hid.mk' HF
        have HB := Hid.mk' hb
        clear hx hT hE HE HF hb hl hsx
        go_wp2_with fail
        refine (HE2.out).mono ?_
        rintro e w6 ⟨v6, rfl, ho6, hb6⟩
        have HB6 := Hid.mk' (HB.out.trans (hb6.mono hsz))
        have c6 : w6.cell? ⟨b, o + k, none⟩ = some (.string x) := (hb6.cell (p := ⟨b, o + k, none⟩) (Nat.lt_of_lt_of_le hbb hsz)).trans c1
        have hz6 := hb6.size
        have HO6 := Hid.mk' ho6
        clear ho6 hb6
        go_wp2_with fail
        refine (HF2.out w6).mono ?_
        rintro e w7 ⟨v7, rfl, ho7, hb7⟩
        have HO67 := Hid.mk' (HO6.out.below hb7)
        have HB7 := Hid.mk' (HB6.out.trans (hb7.mono HB6.out.size))
        have hz7 := hb7.size
        have HQ := Hid.mk' (eqT_below _ _ _ _ (HO67.out.shw (by omega)) (ho7.shw (by omega)))
        clear ho7 hb7 c1
        go_wp2_with (first
          | (go_at_call 9; refine (num_any _ _).mono ?_; rintro e w8 ⟨rfl, rfl⟩)
          | (go_at_call 10; refine (HQ.out).mono ?_; rintro e w8 ⟨rfl, hb8⟩))
        refine (spoilT_any _ _ wr.heap.size _ _ (HO67.out.below hb8) (by omega) (by have := hb8.size; omega)).mono ?_
        rintro e w9 ⟨rfl, hb9⟩
        have HB9 := Hid.mk' ((HB7.out.trans (hb8.mono HB7.out.size)).trans (hb9.mono hsz))
        clear hb8 hb9
        go_wp2
        go_roundw
        case rel => exact ⟨k + 1, by omega, by omega, by go_num, HB9.out⟩
        case measure => simp [intOf]; omega
    · have HW := Hid.mk' (wakes_any wr hVr)
      have HB := Hid.mk' hb
      have ht : ¬ (k : Int) < (n : Int) ∨ ((k : Int) < (n : Int) ∧ ¬ (k : Int) < 12) := by omega
      clear hlt ha hb
      rcases ht with t1 | ⟨t1, t2⟩
      all_goals
        go_wp2_with fail
        refine (HW.out).mono ?_
        rintro e w7 ⟨rfl, hb7⟩
        go_wp2
        go_ret
        exact ⟨rfl, HB.out.trans (hb7.mono hsz)⟩
end Go.Proofs.YtkeenfgfadmdlaaDoor
