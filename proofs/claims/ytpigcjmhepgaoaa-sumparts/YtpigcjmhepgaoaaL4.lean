/-
  The law SumParts: the walk.
-/
import Derived.Test.YtpigcjmhepgaoaaTn
namespace Go.Proofs.Ytpigcjmhepgaoaa
open Go.ChangeShapes Go.WideShapes Go.ChangeAt Go.RowKit Go.Deep

set_option maxRecDepth 100000 in
set_option maxHeartbeats 4000000 in
theorem parts_walk (v : Value) (len : Nat) (AA BB : Nat → Nat) (VV : Nat → Value) (LL : Nat → List Nat) (NN : Nat → Int) (w : World) (hA : Asks w v len AA BB VV LL NN) :
    Calls Try.prog 4 #[v] w fun e w' => e = .returned (.bool true) ∧ Below w.heap.size w w' := by
  obtain ⟨a, cap, rfl, hmax, hA⟩ := hA
  go_enter Try.func4, Try.ntmps4
  go_wp2
  go_loopw [3] (fun i wr => ∃ k : Nat, k ≤ len ∧ k ≤ 20 ∧ i = .int .i64 k ∧ Below w.heap.size w wr) (fun i _ => 20 - (intOf i).toNat)
  case atStart => exact ⟨0, by omega, by omega, rfl, Below.refl _ _⟩
  case round =>
    obtain ⟨k, hk, hk20, rfl, hb⟩ := hrel
    have hsz := hb.size
    by_cases hlt : k < len ∧ k < 20
    · obtain ⟨h1, h2⟩ := hlt
      obtain ⟨b, o, rfl, hc⟩ := hA (by omega)
      obtain ⟨c0, c1, c2, c3, hA1, hB1, hv, hl, hr⟩ := hc k h1
      have d0 : wr.cell? ⟨b, o + k * 4, none⟩ = some (.int .u32 (AA k : Nat)) := cell_on hb c0
      have d1 : wr.cell? ⟨b, o + k * 4 + 1, none⟩ = some (.int .u32 (BB k : Nat)) := cell_on hb c1
      have d2 : wr.cell? ⟨b, o + k * 4 + 2, none⟩ = some (VV k) := cell_on hb c2
      have d3 : wr.cell? ⟨b, o + k * 4 + 3, none⟩ = some (.int .i64 (NN k)) := cell_on hb c3
      have HV := Hid.mk' (hv.below hb)
      have HL := Hid.mk' hl
      have HR := Hid.mk' hr
      clear hc hA c0 c1 c2 c3 hv hl hr
      generalize AA k = A at *
      generalize BB k = B at *
      generalize VV k = v at *
      generalize LL k = L at *
      generalize NN k = N at *
      obtain ⟨a1, x1, hv⟩ : ∃ a c, v = .slice a L.length c := by obtain ⟨⟨a, c, h, _⟩, _⟩ := HV.out; exact ⟨a, c, h⟩
      have hmL : L.length ≤ 9223372036854775807 := HV.out.2
      subst hv
      have hAl : Below wr.heap.size wr (wr.alloc (.cells #[.int .u32 (A : Nat), .int .u32 (B : Nat), .slice a1 L.length x1, .int .i64 N] 26)) := (Below.refl _ _).alloc (Nat.le_refl _) _
      by_cases h5 : 5000 < L.length
      · go_wp2
        go_roundw
        case rel => exact ⟨k + 1, by omega, by omega, by go_num, hb.alloc hsz _⟩
        case measure => simp [intOf]; omega
      · by_cases h0 : L.length = 0
        · have t0 : ((L.length : Int) == 0) = true := by rw [beq_iff_eq]; omega
          clear h0
          go_wp2
          go_roundw
          case rel => exact ⟨k + 1, by omega, by omega, by go_num, hb.alloc hsz _⟩
          case measure => simp [intOf]; omega
        · have t0 : ((L.length : Int) == 0) = false := by rw [beq_eq_false_iff_ne]; omega
          obtain ⟨r, hr, HC⟩ := within_ex N (L.length / 8 + 1) ((L.length : Int) / 8 + 1) (by omega) (by omega) (by omega)
          go_wp2_with fail
          refine (HC _).mono ?_
          rintro e w' ⟨rfl, rfl⟩
          clear HC
          have hj : 8 * r ≤ L.length := by omega
          have hd5 : decide ((5000 : Int) < (L.length : Int)) = false := decide_eq_false (by omega)
          go_wp2_with fail
          rw [show 8 * (r : Int) = ((8 * r : Nat) : Int) by omega]
          have HP := Hid.mk' (M.sum_parts A B L r hj)
          generalize 8 * r = j at *
          refine (sum_any A B _ L _ (HV.out.below hAl) HL.out HR.out).mono ?_
          rintro e w2 ⟨rfl, hb2⟩
          have q2 : Below w.heap.size w w2 := (hb.alloc hsz _).trans (hb2.mono (by simp; omega))
          have p0_2 : w2.cell? ⟨wr.heap.size, 0, none⟩ = some (.int .u32 (A : Nat)) := cell_on hb2 (by simp)
          have p1_2 : w2.cell? ⟨wr.heap.size, 1, none⟩ = some (.int .u32 (B : Nat)) := cell_on hb2 (by simp)
          have p2_2 : w2.cell? ⟨wr.heap.size, 2, none⟩ = some (.slice a1 L.length x1) := cell_on hb2 (by simp)
          have p3_2 : w2.cell? ⟨wr.heap.size, 3, none⟩ = some (.int .i64 N) := cell_on hb2 (by simp)
          have V2 := Hid.mk' ((HV.out.below hAl).below hb2)
          have z2 := q2.size
          clear hb2 d0 d1 d2 d3 HV hb hsz hAl
          have hrx : L.length ≤ x1 := by
            obtain ⟨_, _, _, e1, e2⟩ := HR.out
            obtain ⟨_, rfl, rfl⟩ := by simpa using e1
            exact e2
          generalize wr.heap.size = wb at *
          have ST := Hid.mk' (fun y p => M.sum_turned A B L p y HL.out)
          have SP := Hid.mk' (fun m => M.sum_pad A B L m)
          obtain ⟨⟨X, Y⟩, hXY⟩ : ∃ s, M.sum A B L = s := ⟨_, rfl⟩
          rw [hXY] at HP ST SP ⊢
          clear hXY
          simp only
          go_wp2_with fail
          have f1 : (j : Int) ≤ (x1 : Int) := by omega
          have f3 : (0 : Int) ≤ (j : Int) := by omega
          have f2 : ¬ x1 = 0 := by omega
          go_region_held3 (fun w' => w'.cell? ⟨wb, 0, none⟩ = some (.int .u32 (A : Nat)) ∧ w'.cell? ⟨wb, 1, none⟩ = some (.int .u32 (B : Nat)) ∧ w'.cell? ⟨wb, 2, none⟩ = some (.slice a1 L.length x1)) (first | exact ⟨p0_2, p1_2, p2_2⟩ | exact ⟨cell_on hb3 p0_2, cell_on hb3 p1_2, cell_on hb3 p2_2⟩ | assumption | go_keep)
            (first
              | (go_at_call 7; refine (sum_any A B _ (L.take j) _ (V2.out.drew.take j (by omega)) (fun x hx => HL.out x (List.mem_of_mem_take hx)) ⟨_, _, _, rfl, by omega⟩).mono ?_; rintro e w3 ⟨rfl, hb3'⟩; have hb3 : Below w2.heap.size w2 w3 := ((Below.refl _ _).drew).trans hb3'; clear hb3'))
          clear f1 f2
          have p0_3 := cell_on hb3 p0_2
          have p1_3 := cell_on hb3 p1_2
          have p2_3 := cell_on hb3 p2_2
          have p3_3 := cell_on hb3 p3_2
          have V3 := Hid.mk' (V2.out.below hb3)
          have q3 : Below w.heap.size w w3 := q2.trans (hb3.mono z2)
          have z3 := q3.size
          clear hb3 p0_2 p1_2 p2_2 p3_2 V2 q2 z2 
          obtain ⟨⟨P, Q⟩, hPQ⟩ : ∃ s, M.sum A B (L.take j) = s := ⟨_, rfl⟩
          rw [hPQ] at HP ⊢
          clear hPQ
          simp only at HP ⊢
          obtain ⟨a2, ha2⟩ : ∃ a2, (if x1 = j then a1 else Option.map (fun x => x.add j) a1) = a2 := ⟨_, rfl⟩
          have V3d : Hid (∀ W, Sees W (.slice a1 L.length x1) L → Sees W (.slice a2 (L.length - j) (x1 - j)) (L.drop j)) := by
            intro W hW
            rw [← ha2]
            by_cases hx : x1 = j
            · exact Sees.drop0 j (by omega) (by omega)
            · rw [if_neg hx]
              exact hW.drop1 j hj
          have f1 : (j : Int) ≤ (L.length : Int) := by omega
          go_wp2_with fail
          refine (sum_any P Q _ (L.drop j) _ (V3d.out _ V3.out) (fun x hx => HL.out x (List.mem_of_mem_drop hx)) ⟨_, _, _, rfl, by omega⟩).mono ?_
          rintro e w4 ⟨rfl, hb4⟩
          have p0_4 := cell_on hb4 p0_3
          have p1_4 := cell_on hb4 p1_3
          have p2_4 := cell_on hb4 p2_3
          have p3_4 := cell_on hb4 p3_3
          have V4 := Hid.mk' (V3.out.below hb4)
          have q4 : Below w.heap.size w w4 := q3.trans (hb4.mono z3)
          have z4 := q4.size
          clear hb4 p0_3 p1_3 p2_3 p3_3 V3 q3 z3 
          rw [HP.out]
          clear ha2 V3d HP f1 f3
          simp only
          go_wp2_with fail
          refine (copy_any _ L _ V4.out (by omega)).mono ?_
          rintro e w5 ⟨v5, rfl, ho5, hb5⟩
          have lt4 : wb < w4.heap.size := World.block_lt_of_cell? _ _ p0_4
          have K4 : Hid (∀ W, Below w4.heap.size w4 W → (W.cell? ⟨wb, 0, none⟩ = some (.int .u32 (A : Nat)) ∧ W.cell? ⟨wb, 1, none⟩ = some (.int .u32 (B : Nat)) ∧ W.cell? ⟨wb, 2, none⟩ = some (.slice a1 L.length x1) ∧ W.cell? ⟨wb, 3, none⟩ = some (.int .i64 N)) ∧ Sees W (.slice a1 L.length x1) L ∧ Below w.heap.size w W) := fun W h => ⟨⟨cell_on h p0_4, cell_on h p1_4, cell_on h p2_4, cell_on h p3_4⟩, V4.out.below h, q4.trans (h.mono z4)⟩
          have B45 := Hid.mk' hb5
          have R5 := owns_roomy ho5
          obtain ⟨gb, c5, rfl, hg4, hg5, hc5, hf5⟩ := owns_open ho5 (by omega)
          clear ho5
          have hgw : wb ≠ gb := by omega
          have hcr : L.length ≤ c5 := by
            obtain ⟨_, _, _, e1, e2⟩ := R5
            obtain ⟨_, rfl, rfl⟩ := by simpa using e1
            exact e2
          have hgq : w.heap.size ≤ gb := by omega
          have G4 := Hid.mk' hg4
          clear R5 hg4 lt4
          have p0_5 := cell_on hb5 p0_4
          have p1_5 := cell_on hb5 p1_4
          have p2_5 := cell_on hb5 p2_4
          have p3_5 := cell_on hb5 p3_4
          have V5 := Hid.mk' (V4.out.below hb5)
          have q5 : Below w.heap.size w w5 := q4.trans (hb5.mono z4)
          have z5 := q5.size
          clear hb5 p0_4 p1_4 p2_4 p3_4 V4 q4 z4 
          obtain ⟨r1, hr1, HC1⟩ := within_ex N L.length (L.length : Int) rfl (by omega) (by omega)
          obtain ⟨r2, hr2, HC2⟩ := within_ex N 255 255 rfl (by omega) (by omega)
          have c1 : w5.cell? ⟨gb, r1, none⟩ = some (.int .u8 ((L.getD r1 0 : Nat) : Int)) := hc5 r1 _ (by simp [List.getElem?_eq_getElem hr1, List.getD_eq_getElem?_getD, B8])
          have fz := hf5 r1
          have hx := M.getD_lt HL.out r1
          have HC5 := Hid.mk' hc5
          clear hc5 hf5
          have HX : Hid (∃ x, L.getD r1 0 = x) := ⟨_, rfl⟩
          obtain ⟨x, hxx⟩ := HX.out
          rw [hxx] at c1 hx
          have HXX := Hid.mk' hxx
          clear hxx HX
          have f1 : (r1 : Int) < (L.length : Int) := by omega
          have f2 : (0 : Int) ≤ (r1 : Int) := by omega
          obtain ⟨y, hy, hy1, hy2⟩ := xor_byte x r2 hx hr2
          have HT : Hid (Below w4.heap.size w4 (w5.setCell ⟨gb, r1, none⟩ (.int .u8 (bits .xor .u8 (x : Int) (1 + (r2 : Int))))).drew ∧ ∃ y : Nat, y < 256 ∧ y ≠ x ∧ Sees (w5.setCell ⟨gb, r1, none⟩ (.int .u8 (bits .xor .u8 (x : Int) (1 + (r2 : Int))))).drew (.slice (some ⟨gb, 0, none⟩) L.length c5) (L.set r1 y)) := by
            rw [hy]
            exact ⟨(B45.out.setCell (p := ⟨gb, r1, none⟩) G4.out _).drew, y, hy1, hy2, sees_turned HC5.out hr1 hmL⟩
          clear hy hy1 hy2 HC5 y
          go_wp2_with fail
          go_cut [] from 90 to 104 (fun wx => Below w4.heap.size w4 wx ∧ ∃ y : Nat, y < 256 ∧ y ≠ x ∧ Sees wx (.slice (some ⟨gb, 0, none⟩) L.length c5) (L.set r1 y))
          case first => as_aux_lemma =>
            refine wp_region_still_tail 15 (by kernel_rfl) (by kernel_rfl) ?_
            simp only [List.take_succ_cons, List.take_zero, List.drop_succ_cons, List.drop_zero]
            repeat still_step
            still_call (HC1 _)
            repeat still_step
            still_call (HC2 _)
            repeat still_step
            refine wpStill_nil ?_
            go_wp2_with fail
            go_meet
            exact HT.out
          case rest =>
            obtain ⟨B6, y, hy1, hy2, hS6⟩ := hcut
            have SX : Hid (M.sum A B (L.set r1 y) ≠ (X, Y)) := ST.out y r1 hr1 hy1 (by rw [HXX.out]; exact hy2) hA1 hB1
            have LX : Hid (∀ x ∈ L.set r1 y, x < 256) := by
              intro z hz
              rcases List.mem_or_eq_of_mem_set hz with h | rfl
              · exact HL.out z h
              · exact hy1
            obtain ⟨⟨p0_6, p1_6, p2_6, p3_6⟩, hV6, q6⟩ := K4.out _ B6
            have V6 := Hid.mk' hV6
            have S6 := Hid.mk' hS6
            have z6 := q6.size
            clear HT HXX ST K4 B45 G4 p0_5 p1_5 p2_5 p3_5 V5 q5 z5 HC1 HC2 fz hx c1 f1 f2 B6 hV6 hS6 hy1 hy2 hg5 hgw hgq hr1 hr2
            generalize wc = w6 at *
            go_wp2_with fail
            refine (sum_any A B _ (L.set r1 y) _ S6.out LX.out ⟨_, _, _, rfl, hcr⟩).mono ?_
            rintro e w7 ⟨rfl, hb7⟩
            have p0_7 := cell_on hb7 p0_6
            have p1_7 := cell_on hb7 p1_6
            have p2_7 := cell_on hb7 p2_6
            have p3_7 := cell_on hb7 p3_6
            have V7 := Hid.mk' (V6.out.below hb7)
            have q7 : Below w.heap.size w w7 := q6.trans (hb7.mono z6)
            have z7 := q7.size
            clear hb7 p0_6 p1_6 p2_6 p3_6 V6 q6 z6 
            clear S6 LX
            obtain ⟨⟨U, V⟩, hUV⟩ : ∃ s, M.sum A B (L.set r1 y) = s := ⟨_, rfl⟩
            rw [hUV] at SX ⊢
            clear hUV
            simp only
            go_upto_region 15 with fail
            go_cut [121] from 114 to 121 (fun u121 wx => u121 = .bool false ∧ wx = w7)
            case first => as_aux_lemma =>
              by_cases hU : U = X
              · have hV : ¬ V = Y := fun h => SX.out (by rw [hU, h])
                have t1 : ((U : Int) == (X : Int)) = true := by rw [beq_iff_eq]; omega
                have t2 : ((V : Int) == (Y : Int)) = false := by rw [beq_eq_false_iff_ne]; omega
                clear hU hV
                go_wp2_with fail
                go_meet
                exact ⟨rfl, rfl⟩
              · have t1 : ((U : Int) == (X : Int)) = false := by rw [beq_eq_false_iff_ne]; omega
                clear hU
                go_wp2_with fail
                go_meet
                exact ⟨rfl, rfl⟩
            case rest =>
              obtain ⟨rfl, hw⟩ := hcut
              obtain rfl := hw.symm
              clear hw SX
              have K7 : Hid (∀ W, Below w7.heap.size w7 W → (W.cell? ⟨wb, 0, none⟩ = some (.int .u32 (A : Nat)) ∧ W.cell? ⟨wb, 1, none⟩ = some (.int .u32 (B : Nat))) ∧ Below w.heap.size w W) := fun W h => ⟨⟨cell_on h p0_7, cell_on h p1_7⟩, q7.trans (h.mono z7)⟩
              go_wp2_with fail
              refine (copy_any _ L _ V7.out (by omega)).mono ?_
              rintro e w8 ⟨v8, rfl, ho8, hb8⟩
              obtain ⟨a8, c8, rfl, hc8⟩ := owns_form ho8
              have HO8 := Hid.mk' ho8
              obtain ⟨i0, hi, hz0, hz1, hz2⟩ := info_parts Try.info5
              clear p0_7 p1_7 p2_7 p3_7 V7 q7 z7 ho8
              go_wp2_with fail
              go_loopw [13] (fun t wy => ∃ (m : Nat) (a9 : Option Addr) (c9 : Nat), t = .slice a9 (L.length + m) c9 ∧ wy.ownsRow w7.heap.size 5 1 (.slice a9 (L.length + m) c9) (L.length + m) ((L ++ List.replicate m 0).map B8) ∧ Below w7.heap.size w7 wy ∧ L.length + m ≤ (L.length + 7) / 8 * 8) (fun t _ => L.length + 8 - lenOf t)
              case atStart => exact ⟨0, a8, c8, rfl, by simpa using HO8.out, hb8, by omega⟩
              case round =>
                clear HO8 hb8
                obtain ⟨m, a9, c9, rfl, ho, hb9, hT⟩ := hrel
                obtain ⟨⟨p0_9, p1_9⟩, q9⟩ := K7.out _ hb9
                have hsz9 := hb9.size
                by_cases h8 : (L.length + m) % 8 = 0
                · have SS := Hid.mk' (SP.out (L ++ List.replicate m 0) (zeros_behind L m) (by unfold M.steps; rw [List.length_append, List.length_replicate]; omega))
                  have S9 := Hid.mk' (owns_sees' ho (by omega))
                  have R9 := Hid.mk' (owns_roomy ho)
                  have LZ := Hid.mk' (zeros_lt HL.out m)
                  clear ho hT K7
                  generalize L ++ List.replicate m 0 = Lm at *
                  generalize L.length + m = n at *
                  have t9 : ((n : Int) % 8 != 0) = false := by rw [bne_eq_false_iff_eq]; omega
                  clear h8
                  go_wp2_with fail
                  refine (sum_any A B _ Lm _ S9.out LZ.out R9.out).mono ?_
                  rintro e w10 ⟨rfl, hb10⟩
                  rw [SS.out]
                  have q10 : Below w.heap.size w w10 := q9.trans (hb10.mono q9.size)
                  clear SS S9 R9 LZ hb10
                  go_wp2
                  go_roundw
                  case rel => exact ⟨k + 1, by omega, by omega, by go_num, q10⟩
                  case measure => simp [intOf]; omega
                · have HZ := Hid.mk' (zeros_next L m)
                  have HOA := Hid.mk' (ho.alloc (.cells #[.int .u8 0] 5))
                  have hbk : ∀ q, Value.ownBlock _ = some q → w7.heap.size ≤ q := fun q hq => (ho.lt q hq).1
                  have HK := Hid.mk' hbk
                  have hm7 : L.length + m + 1 ≤ (L.length + 7) / 8 * 8 := by omega
                  clear ho hbk hT
                  generalize (L ++ List.replicate m 0).map B8 = xs at *
                  obtain ⟨n, hn⟩ : ∃ n, L.length + m = n := ⟨_, rfl⟩
                  have HN := Hid.mk' hn
                  rw [hn] at HOA HK h8 hm7 ⊢
                  clear hn
                  have t9 : ((n : Int) % 8 != 0) = true := by rw [bne_iff_ne]; omega
                  clear h8
                  go_wp2_with (at_builtin; refine wpList_append_own _ rfl _ _ 24 rfl w7.heap.size 5 i0 (.int .u8 0) 1 1 Try.underlying24 hi hz0 hz1 hz2 rfl (by decide) _ _ _ rfl HOA.out ⟨wr.heap.size, 0, none⟩ 1 1 [.int .u8 0] rfl rfl ?c1 ?c2 ?c3 ?c4 ?c5 ?_)
                  case c1 =>
                    intro j u hj
                    match j, hj with
                    | 0, hj => simp at hj; subst hj; simp [Addr.add]
                  case c2 => intro u hu; simp at hu; subst hu; rfl
                  case c3 => unfold maxLen; omega
                  case c4 => omega
                  case c5 => simp; omega
                  intro v' w1 hown' hgrow _
                  obtain ⟨a', c', rfl, _⟩ := owns_form hown'
                  have HNN := Hid.mk' hown'
                  have hb' : Below w7.heap.size w7 w1 := (hb9.alloc hsz9 _).grown hgrow (by simp; omega) HK.out
                  clear hown' hgrow
                  go_wp2
                  go_roundw
                  case rel =>
                    have hn := HN.out
                    refine ⟨m + 1, a', c', by rw [← Nat.add_assoc, hn], ?_, hb', by omega⟩
                    rw [← HZ.out, ← Nat.add_assoc, hn]
                    exact HNN.out
                  case measure => simp only [lenOf]; omega
    · have t : k < len → ¬ k < 20 := fun h1 h2 => hlt ⟨h1, h2⟩
      by_cases h1 : k < len
      all_goals
        go_wp2_with fail
        refine (wakes_any _).mono ?_
        rintro e w3 ⟨rfl, hb3⟩
        go_wp2
        go_ret
        exact ⟨rfl, hb.trans (hb3.mono hsz)⟩
end Go.Proofs.Ytpigcjmhepgaoaa
