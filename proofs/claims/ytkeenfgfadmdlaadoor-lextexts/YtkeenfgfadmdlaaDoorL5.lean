/-
  LexTexts: the walk.
-/
import Derived.Test.YtkeenfgfadmdlaaDoorLn
namespace Go.Proofs.YtkeenfgfadmdlaaDoor
open Go.ChangeShapes Go.WideShapes Go.ChangeAt Go.RowKit Go.Deep

/-- Each ' twice. -/
def esc (X : List UInt8) : List UInt8 := X.flatMap fun c => if c == 39 then [39, c] else [c]
theorem esc_snoc (X : List UInt8) (c : UInt8) : esc (X ++ [c]) = esc X ++ (if c == 39 then [39, c] else [c]) := by
  unfold esc
  rw [List.flatMap_append]
  simp
theorem esc_len (X : List UInt8) : (esc X).length ≤ 2 * X.length := by
  induction X with
  | nil => simp [esc]
  | cons c X ih =>
    have e : esc (c :: X) = (if c == 39 then [39, c] else [c]) ++ esc X := rfl
    rw [e, List.length_append]
    split <;> simp <;> omega
theorem quot_esc (X : List UInt8) : L.quot (esc X ++ [39]) = some (X, []) := by
  induction X with
  | nil => rfl
  | cons c X ih =>
    have e : esc (c :: X) = (if c == 39 then [39, c] else [c]) ++ esc X := rfl
    rw [e]
    by_cases hc : (c == 39) = true
    · obtain rfl : c = 39 := by simpa using hc
      show L.quot (39 :: 39 :: (esc X ++ [39])) = _
      rw [L.quot, ih]
      rfl
    · rw [if_neg hc]
      show L.quot (c :: (esc X ++ [39])) = _
      obtain ⟨d, r, hd⟩ : ∃ d r, esc X ++ [39] = d :: r := by
        cases hX : esc X ++ [39] with
        | nil => simp at hX
        | cons d r => exact ⟨d, r, rfl⟩
      rw [hd, L.quot, if_neg hc, ← hd, ih]
      rfl
theorem tok_text (X : List UInt8) (h : X.length ≤ 3000) : L.tokens (39 :: (esc X ++ [39])) = ([(3, X, 0)], 0) := by
  have hs : L.spec (39 :: (esc X ++ [39])) = some [(3, X, 0)] := by
    have := L.cont_text (l := esc X ++ [39])
    refine Eq.trans (show L.spec (39 :: (esc X ++ [39])) = L.cont 0 (39 :: (esc X ++ [39])) [] from rfl) ?_
    rw [this]
    show (L.quot (esc X ++ [39])).bind (fun q => (L.spec q.2).map ((3, [] ++ q.1, 0) :: ·)) = _
    rw [quot_esc]
    rfl
  have hl := esc_len X
  unfold L.tokens
  rw [if_neg (by simp; omega), hs]
  have : List.any [((3 : Int), X, (0 : Int))] L.long = false := by
    simp [L.long]
    omega
  simp [this]

theorem app8 (w : World) (base : Nat) (v : Value) (n : Nat) (G : List UInt8) (c : UInt8) (hown : w.ownsRow base 5 1 v n (G.map UC)) (hb : n ≤ 1000000) (hbase : base ≤ w.heap.size) :
    ∃ v' w', (Builtin.append_ #[37, 37] 37 #[v, .slice (some ⟨w.heap.size, 0, none⟩) 1 1]).run Tryd.prog (w.alloc (.cells #[.int .u8 (c.toNat : Int)] 5)) = .ok v' w' ∧ (w'.ownsRow base 5 1 v' (n + 1) ((G ++ [c]).map UC) ∧ Below base w w') := by
  obtain ⟨i0, hi, hz0, hz1, hz2⟩ := info_parts Tryd.info5
  have hs1 := src_one w 5 37 (.int .u8 (c.toNat : Int)) Tryd.underlying37 rfl
  obtain ⟨v5, w5, hr, ho5, hg5, hl5⟩ := run_append_src (P := Tryd.prog) (w.alloc (.cells #[.int .u8 (c.toNat : Int)] 5)) base 37 37 37 5 i0 (.int .u8 0) 1 1 Tryd.underlying37 hi hz0 hz1 hz2 rfl v n (G.map UC) (hown.alloc _) _ 1 _ hs1 (by unfold maxLen; omega) (by omega) (by simp; omega)
  have hlow := (hown.alloc (.cells #[.int .u8 (c.toNat : Int)] 5)).lt
  refine ⟨v5, w5, hr, ?_, ((Below.refl base w).alloc (by omega) _).grown hg5 (by simp; omega) (fun q hq => (hlow q hq).1)⟩
  rw [List.map_append]
  exact ho5

theorem owns_lit (w : World) (base : Nat) (c : UInt8) (hb : base ≤ w.heap.size) : (w.alloc (.cells #[.int .u8 (c.toNat : Int)] 5)).ownsRow base 5 1 (.slice (some ⟨w.heap.size, 0, none⟩) 1 1) 1 ([c].map UC) :=
  ⟨rfl, .inr ⟨w.heap.size, 1, #[.int .u8 (c.toNat : Int)], rfl, hb, heap_alloc_new w _, Nat.le_refl _, by unfold maxLen; omega, rfl, rfl⟩⟩

theorem take_byte (s : ByteArray) (j : Nat) (h : j < s.size) : s.data.toList.take (j + 1) = s.data.toList.take j ++ [s[j]] := by
  rw [List.take_succ_eq_append_getElem (by simpa using h)]
  rfl

set_option maxRecDepth 100000 in
set_option maxHeartbeats 2000000 in
theorem texts_walk (v : Value) (n : Nat) (A : Nat → ByteArray) (w : World) (hV : Vr w) (hq : Asks w v n A) :
    Calls Tryd.prog 5 #[v] w fun e w' => e = .returned (.bool true) ∧ Below w.heap.size w w' := by
  obtain ⟨⟨a, cap, rfl, ha⟩, hm⟩ := hq
  have h2 := hV.lt
  go_enter Tryd.func5, Tryd.ntmps5
  go_wp2
  go_loopw [3] (fun i wr => ∃ k : Nat, k ≤ n ∧ k ≤ 12 ∧ i = .int .i64 k ∧ Below w.heap.size w wr) (fun i _ => 12 - (intOf i).toNat)
  case atStart => exact ⟨0, by omega, by omega, rfl, Below.refl _ _⟩
  case round =>
    obtain ⟨k, hk, hk12, rfl, hb⟩ := hrel
    have hVr := hV.on hb h2
    have hsz := hb.size
    by_cases hlt : k < n ∧ k < 12
    · obtain ⟨hkn, hk2⟩ := hlt
      obtain ⟨b, o, rfl, hc⟩ := ha (by omega)
      have c1 := cell_on hb (hc k hkn)
      have hbb : b < w.heap.size := World.block_lt_of_cell? _ _ (hc k hkn)
      obtain ⟨s, hs⟩ : ∃ s, A k = s := ⟨_, rfl⟩
      rw [hs] at c1
      have t1 : decide ((k : Int) < (n : Int)) = true := decide_eq_true (by omega)
      have t2 : decide ((k : Int) < 12) = true := decide_eq_true (by omega)
      by_cases hl : 3000 < s.size
      · have t3 : decide ((3000 : Int) < (s.size : Int)) = true := decide_eq_true (by omega)
        clear hc ha hs
        go_wp2
        go_ret
        exact ⟨rfl, hb⟩
      · have t3 : decide ((3000 : Int) < (s.size : Int)) = false := decide_eq_false (by omega)
        clear hc ha hs
        obtain ⟨wA, hwA⟩ : ∃ wA, wr = wA := ⟨_, rfl⟩
        rw [hwA] at hb c1 hVr hsz ⊢
        go_wp2
        have HO := owns_lit wA w.heap.size 39 hsz
        have hb1 : Below w.heap.size w (wA.alloc (.cells #[.int .u8 39] 5)) := hb.alloc hsz _
        go_loopw [4, 5] (fun t i wr => ∃ j : Nat, j ≤ s.size ∧ i = .int .i64 j ∧ Below w.heap.size w wr ∧ wr.cell? ⟨b, o + k, none⟩ = some (.string s) ∧ wr.ownsRow w.heap.size 5 1 t (39 :: esc (s.data.toList.take j)).length ((39 :: esc (s.data.toList.take j)).map UC)) (fun _ i _ => s.size - (intOf i).toNat)
        case atStart => exact ⟨0, by omega, rfl, hb1, by simpa using cell_on ((Below.refl _ _).alloc (Nat.le_refl _) _) c1, HO⟩
        case round =>
          clear HO hb1 c1 hwA hb hsz
          obtain ⟨j, hj, rfl, hb2, c2, ho2⟩ := hrel
          have hsz2 := hb2.size
          by_cases hjl : j < s.size
          · have HT := Hid.mk' (take_byte s j hjl)
            obtain ⟨c, hcb⟩ : ∃ c, s[j] = c := ⟨_, rfl⟩
            rw [hcb] at HT
            have hln := esc_len (s.data.toList.take j)
            have hl2 : (39 :: esc (s.data.toList.take j)).length ≤ 100000 := by simp at hln ⊢; omega
            have hbk := ho2.lt
            obtain ⟨G, hG⟩ : ∃ G, 39 :: esc (s.data.toList.take j) = G := ⟨_, rfl⟩
            rw [hG] at ho2 hl2
            have HG := Hid.mk' hG
            have t4 : decide ((j : Int) < (s.size : Int)) = true := decide_eq_true (by omega)
            by_cases hc : (c == 39) = true
            · have hc' : ((c.toNat : Int) == 39) = true := by
                revert hc
                exact L.all_u8 (p := fun c => (c == 39) = true → ((c.toNat : Int) == 39) = true) (by decide +kernel) c
              have HA := Hid.mk' (app8 wr w.heap.size _ _ G 39 ho2 (by omega) hsz2)
              have HB2 := Hid.mk' hb2
              clear ho2 hln hG hbk
              go_upto_region 12 with (at_builtin; refine wpList_append_run rfl _ _ 37 37 rfl _ _ rfl rfl HA.out ?_; rintro v5 w5 ⟨ho5, hb5⟩)
              have c5 : w5.cell? ⟨b, o + k, none⟩ = some (.string s) := (hb5.cell (p := ⟨b, o + k, none⟩) hbb).trans c2
              have HB5 := Hid.mk' (HB2.out.trans hb5)
              have HA2 := Hid.mk' (app8 w5 w.heap.size _ _ (G ++ [39]) c ho5 (by omega) (Nat.le_trans hsz2 hb5.size))
              clear ho5 hb5 hb2
              go_wp2_with (at_builtin; refine wpList_append_run rfl _ _ 37 37 rfl _ _ rfl rfl HA2.out ?_; rintro v6 w6 ⟨ho6, hb6⟩)
              go_roundw
              case rel =>
                refine ⟨j + 1, by omega, by go_num, HB5.out.trans hb6, (hb6.cell (p := ⟨b, o + k, none⟩) hbb).trans c5, ?_⟩
                rw [HT.out, esc_snoc, ← List.cons_append, HG.out, if_pos hc]
                rw [List.append_assoc] at ho6
                simpa using ho6
              case measure => simp [intOf]; omega
            · have hcf : (c == 39) = false := by simpa using hc
              have hc' : ((c.toNat : Int) == 39) = false := by
                revert hcf
                exact L.all_u8 (p := fun c => (c == 39) = false → ((c.toNat : Int) == 39) = false) (by decide +kernel) c
              have HA := Hid.mk' (app8 wr w.heap.size _ _ G c ho2 (by omega) hsz2)
              have HB2 := Hid.mk' hb2
              clear ho2 hln hG hbk hb2
              go_wp2_with (at_builtin; refine wpList_append_run rfl _ _ 37 37 rfl _ _ rfl rfl HA.out ?_; rintro v6 w6 ⟨ho6, hb6⟩)
              go_roundw
              case rel =>
                refine ⟨j + 1, by omega, by go_num, HB2.out.trans hb6, (hb6.cell (p := ⟨b, o + k, none⟩) hbb).trans c2, ?_⟩
                rw [HT.out, esc_snoc, ← List.cons_append, HG.out, if_neg hc]
                simpa using ho6
              case measure => simp [intOf]; omega
          · obtain rfl : j = s.size := by omega
            have hfull : s.data.toList.take s.size = s.data.toList := List.take_of_length_le (by simp)
            have hln := esc_len s.data.toList
            have hsl : s.data.toList.length = s.size := by simp
            rw [hfull] at ho2
            obtain ⟨G, hG⟩ : ∃ G, 39 :: esc s.data.toList = G := ⟨_, rfl⟩
            rw [hG] at ho2
            have hl2 : G.length ≤ 100000 := by rw [← hG]; simp; omega
            have hT := tok_text s.data.toList (by omega)
            rw [← List.cons_append, hG] at hT
            have HT := Hid.mk' hT
            have HA := Hid.mk' (app8 wr w.heap.size _ _ G 39 ho2 (by omega) hsz2)
            have HB2 := Hid.mk' hb2
            have t4 : decide ((s.size : Int) < (s.size : Int)) = false := decide_eq_false (by omega)
            clear ho2 hln hfull hsl hT hG hj hjl hb2
            go_upto_region 14 with (at_builtin; refine wpList_append_run rfl _ _ 37 37 rfl _ _ rfl rfl HA.out ?_; rintro v5 w5 ⟨ho5, hb5⟩)
            have HB5 := Hid.mk' (HB2.out.trans hb5)
            have c5 : w5.cell? ⟨b, o + k, none⟩ = some (.string s) := (hb5.cell (p := ⟨b, o + k, none⟩) hbb).trans c2
            have HC : Hid ((convert 37 9 v5).run Tryd.prog w5 = .ok (.string (S (G ++ [39]))) w5) := conv_row (by rw [List.length_append]; exact ho5)
            have HE := Hid.mk' (tokens_any (G ++ [39]) w5 (hV.on HB5.out h2))
            rw [HT.out] at HE
            generalize S (G ++ [39]) = q at HC HE
            have hC := HC.out
            clear ho5 hb5 c2
            go_wp2_with fail
            refine (HE.out).mono ?_
            rintro e w6 ⟨v6, rfl, ho6, hb6⟩
            have HB6 := Hid.mk' (HB5.out.trans (hb6.mono HB5.out.size))
            have c6 : w6.cell? ⟨b, o + k, none⟩ = some (.string s) := (hb6.cell (p := ⟨b, o + k, none⟩) (Nat.lt_of_lt_of_le hbb HB5.out.size)).trans c5
            have s1 := (ho6.shw (by simp)).below ((Below.refl _ _).alloc (Nat.le_refl _) (.cells #[.int .i64 3, .string s, .int .i64 0] 36))
            have s2 : Shw (w6.alloc (.cells #[.int .i64 3, .string s, .int .i64 0] 36)) (.slice (some ⟨w6.heap.size, 0, none⟩) 1 1) [(3, s.data.toList, 0)] := shw_one w6 (3, s.data.toList, 0)
            have HQ := Hid.mk' (eqT_same _ _ _ _ s1 s2)
            clear ho6 hb6 s1 s2 c5 HC hC HE HT HA
            go_wp2_with (first
              | (go_at_call 9; refine (num_any _ _).mono ?_; rintro e w7 ⟨rfl, rfl⟩)
              | (go_at_call 10; refine (HQ.out).mono ?_; rintro e w7 ⟨rfl, nq7, rfl⟩))
            go_roundw
            case rel => exact ⟨k + 1, by omega, by omega, by go_num, below_drewN (HB6.out.alloc HB6.out.size _) _⟩
            case measure => simp [intOf]; omega
    · have HW := Hid.mk' (wakes_any wr hVr)
      have HB := Hid.mk' hb
      have ht : ¬ (k : Int) < (n : Int) ∨ ((k : Int) < (n : Int) ∧ ¬ (k : Int) < 12) := by omega
      clear hlt ha hb
      rcases ht with t1 | ⟨t1, t2⟩
      all_goals
        go_wp2_with fail
        refine (HW.out).mono ?_
        rintro e w7 ⟨rfl, hb7⟩
        go_wp2
        go_ret
        exact ⟨rfl, HB.out.trans (hb7.mono hsz)⟩
end Go.Proofs.YtkeenfgfadmdlaaDoor
