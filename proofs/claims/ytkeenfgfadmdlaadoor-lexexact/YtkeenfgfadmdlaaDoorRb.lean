/-
  The contracts of the reference's quoted and blob.
-/
import Derived.Test.YtkeenfgfadmdlaaDoorRa
namespace Go.Proofs.YtkeenfgfadmdlaaDoor
open Go.ChangeShapes Go.WideShapes Go.ChangeAt Go.RowKit Go.Deep

theorem app8 (w : World) (base : Nat) (v : Value) (n : Nat) (G : List UInt8) (c : UInt8) (hown : w.ownsRow base 5 1 v n (G.map UC)) (hb : n ≤ 1000000) (hbase : base ≤ w.heap.size) :
    ∃ v' w', (Builtin.append_ #[37, 37] 37 #[v, .slice (some ⟨w.heap.size, 0, none⟩) 1 1]).run Tryd.prog (w.alloc (.cells #[.int .u8 (c.toNat : Int)] 5)) = .ok v' w' ∧ (w'.ownsRow base 5 1 v' (n + 1) ((G ++ [c]).map UC) ∧ Below base w w') := by
  obtain ⟨i0, hi, hz0, hz1, hz2⟩ := info_parts Tryd.info5
  have hs1 := src_one w 5 37 (.int .u8 (c.toNat : Int)) Tryd.underlying37 rfl
  obtain ⟨v5, w5, hr, ho5, hg5, hl5⟩ := run_append_src (P := Tryd.prog) (w.alloc (.cells #[.int .u8 (c.toNat : Int)] 5)) base 37 37 37 5 i0 (.int .u8 0) 1 1 Tryd.underlying37 hi hz0 hz1 hz2 rfl v n (G.map UC) (hown.alloc _) _ 1 _ hs1 (by unfold maxLen; omega) (by omega) (by simp; omega)
  have hlow := (hown.alloc (.cells #[.int .u8 (c.toNat : Int)] 5)).lt
  refine ⟨v5, w5, hr, ?_, ((Below.refl base w).alloc (by omega) _).grown hg5 (by simp; omega) (fun q hq => (hlow q hq).1)⟩
  rw [List.map_append]
  exact ho5

theorem quot_other {c : UInt8} (h : (c == 39) = false) (R : List UInt8) : L.quot (c :: R) = (L.quot R).map fun q => (c :: q.1, q.2) := by
  cases R with
  | nil => rw [L.quot, L.quot, if_neg (by simp [h])]; rfl
  | cons d R => rw [L.quot, if_neg (by simp [h])]
theorem quot_end {R : List UInt8} (h : (R.head? == some 39) = false) : L.quot (39 :: R) = some ([], R) := by
  cases R with
  | nil => rfl
  | cons d R =>
    have hd : ¬ (d == 39) = true := by simpa using h
    rw [L.quot, if_pos (by simp), if_neg hd]
theorem drop_at (X : List UInt8) (i : Nat) (h : i < (S X).size) : X.drop i = (S X)[i] :: X.drop (i + 1) := by
  rw [List.drop_eq_getElem_cons (show i < X.length from h)]
  rfl

/-- What quoted tells. -/
def QtP (X : List UInt8) (k : Nat) (e : Ending) : Prop :=
  (L.quot (X.drop k) = none ∧ e = .returned (.tuple #[.string ⟨#[]⟩, .int .i64 (-1)])) ∨ ∃ (b : List UInt8) (i : Nat), L.quot (X.drop k) = some (b, X.drop i) ∧ i ≤ X.length ∧ k < i ∧ e = .returned (.tuple #[.string (S b), .int .i64 (i : Int)])

set_option maxRecDepth 100000 in
set_option maxHeartbeats 2000000 in
theorem rquoted_any (X : List UInt8) (k : Nat) (hk : k < X.length) (hX : X.length ≤ 100000) (w : World) :
    Calls Tryd.prog 32 #[.string (S X), .int .i64 (k : Int)] w fun e w' => QtP X (k + 1) e ∧ Below w.heap.size w w' := by
  have hsz : (S X).size = X.length := rfl
  have hD := Hid.mk' (drop_at X)
  obtain ⟨s, hs⟩ : ∃ s, S X = s := ⟨_, rfl⟩
  rw [hs] at hsz ⊢
  have HD : Hid (∀ (i : Nat) (h : i < s.size), X.drop i = s[i] :: X.drop (i + 1)) := by subst hs; exact hD.out
  clear hs hD
  go_enter Tryd.func32, Tryd.ntmps32
  go_wp2
  go_loopw [6, 7] (fun t i wr => ∃ (j : Nat) (G : List UInt8), j ≤ X.length ∧ k < j ∧ i = .int .i64 j ∧ Below w.heap.size w wr ∧ wr.ownsRow w.heap.size 5 1 t G.length (G.map UC) ∧ G.length ≤ j ∧ L.quot (X.drop (k + 1)) = (L.quot (X.drop j)).map (fun q => (G ++ q.1, q.2))) (fun _ i _ => X.length - (intOf i).toNat)
  case atStart => exact ⟨k + 1, [], by omega, by omega, by go_num, Below.refl _ _, World.ownsRow_nil _ _ _ _, by simp, by cases L.quot (X.drop (k + 1)) <;> simp⟩
  case round =>
    obtain ⟨j, G, hj, hkj, rfl, hb, ho, hGj, hQ⟩ := hrel
    have hw := hb.size
    by_cases hjl : j < X.length
    · have hjs : j < s.size := by omega
      have hd := HD.out j hjs
      obtain ⟨c, hc⟩ : ∃ c, s[j] = c := ⟨_, rfl⟩
      rw [hc] at hd
      have t1 : decide ((j : Int) < (s.size : Int)) = true := decide_eq_true (by omega)
      by_cases h39 : (c == 39) = true
      · have hc' : ((c.toNat : Int) != 39) = false := by
          revert h39
          exact L.all_u8 (p := fun c => (c == 39) = true → ((c.toNat : Int) != 39) = false) (by decide +kernel) c
        obtain rfl : c = 39 := by simpa using h39
        by_cases hj2 : j + 1 < X.length
        · have hjs2 : j + 1 < s.size := by omega
          have hd2 := HD.out (j + 1) hjs2
          obtain ⟨d, hdd⟩ : ∃ d, s[j + 1] = d := ⟨_, rfl⟩
          rw [hdd] at hd2
          have t2 : (j : Int) + 1 < (s.size : Int) := by omega
          by_cases hd39 : (d == 39) = true
          · have hd' : ((d.toNat : Int) == 39) = true := by
              revert hd39
              exact L.all_u8 (p := fun c => (c == 39) = true → ((c.toNat : Int) == 39) = true) (by decide +kernel) d
            obtain rfl : d = 39 := by simpa using hd39
            have hQ2 : L.quot (X.drop (k + 1)) = (L.quot (X.drop (j + 1 + 1))).map (fun q => ((G ++ [39]) ++ q.1, q.2)) := by
              rw [hQ, hd, hd2, L.quot]
              cases L.quot (X.drop (j + 1 + 1)) <;> simp
            have HQ2 := Hid.mk' hQ2
            have HA := Hid.mk' (app8 wr w.heap.size _ _ G 39 ho (by omega) hw)
            clear hQ hQ2 hd hd2 ho h39 hd39
            go_wp2_with (at_builtin; refine wpList_append_run rfl _ _ 37 37 rfl _ _ rfl rfl HA.out ?_; rintro v5 w5 ⟨ho5, hb5⟩)
            go_roundw
            case rel => exact ⟨j + 2, G ++ [39], by omega, by omega, by go_num, hb.trans hb5, by rw [List.length_append]; exact ho5, by simp; omega, HQ2.out⟩
            case measure => simp [intOf]; omega
          · have hdf : (d == 39) = false := by simpa using hd39
            have hd' : ((d.toNat : Int) == 39) = false := by
              revert hdf
              exact L.all_u8 (p := fun c => (c == 39) = false → ((c.toNat : Int) == 39) = false) (by decide +kernel) d
            have hE : L.quot (X.drop (k + 1)) = some (G, X.drop (j + 1)) := by
              rw [hQ, hd, quot_end (by rw [hd2]; simpa using hdf)]
              simp
            have HE := Hid.mk' hE
            have hC := conv_row ho
            obtain ⟨q, hq⟩ : ∃ q, S G = q := ⟨_, rfl⟩
            rw [hq] at hC
            have HQq := Hid.mk' hq
            have hown := ho
            obtain ⟨ag, dg, hvg, _, _⟩ := owned_rows (P := Tryd.prog) ho
            clear hQ hE hd ho hown hq hvg
            go_wp2
            go_ret2
            exact ⟨.inr ⟨G, j + 1, HE.out, by omega, by omega, by rw [HQq.out]; rfl⟩, hb⟩
        · have t2 : ¬ (j : Int) + 1 < (s.size : Int) := by omega
          have hE : L.quot (X.drop (k + 1)) = some (G, X.drop (j + 1)) := by
            rw [hQ, hd, quot_end (by rw [List.drop_eq_nil_of_le (by omega)]; rfl)]
            simp
          have HE := Hid.mk' hE
          have hC := conv_row ho
          obtain ⟨q, hq⟩ : ∃ q, S G = q := ⟨_, rfl⟩
          rw [hq] at hC
          have HQq := Hid.mk' hq
          have hown := ho
          obtain ⟨ag, dg, hvg, _, _⟩ := owned_rows (P := Tryd.prog) ho
          clear hQ hE hd ho hown hq hvg
          go_wp2
          go_ret2
          exact ⟨.inr ⟨G, j + 1, HE.out, by omega, by omega, by rw [HQq.out]; rfl⟩, hb⟩
      · have h39f : (c == 39) = false := by simpa using h39
        have hc' : ((c.toNat : Int) != 39) = true := by
          revert h39f
          exact L.all_u8 (p := fun c => (c == 39) = false → ((c.toNat : Int) != 39) = true) (by decide +kernel) c
        have hQ2 : L.quot (X.drop (k + 1)) = (L.quot (X.drop (j + 1))).map (fun q => ((G ++ [c]) ++ q.1, q.2)) := by
          rw [hQ, hd, quot_other h39f]
          cases L.quot (X.drop (j + 1)) <;> simp
        have HQ2 := Hid.mk' hQ2
        have HA := Hid.mk' (app8 wr w.heap.size _ _ G c ho (by omega) hw)
        clear hQ hQ2 hd ho h39
        go_wp2_with (at_builtin; refine wpList_append_run rfl _ _ 37 37 rfl _ _ rfl rfl HA.out ?_; rintro v5 w5 ⟨ho5, hb5⟩)
        go_roundw
        case rel => exact ⟨j + 1, G ++ [c], by omega, by omega, by go_num, hb.trans hb5, by rw [List.length_append]; exact ho5, by simp; omega, HQ2.out⟩
        case measure => simp [intOf]; omega
    · have hjn : j = X.length := by omega
      have hE : L.quot (X.drop (k + 1)) = none := by
        rw [hQ, hjn, List.drop_length]
        rfl
      have HE := Hid.mk' hE
      have t1 : ¬ (j : Int) < (s.size : Int) := by omega
      clear hQ hE ho hjn
      go_wp2
      go_ret2
      exact ⟨.inl ⟨HE.out, rfl⟩, hb⟩
end Go.Proofs.YtkeenfgfadmdlaaDoor
