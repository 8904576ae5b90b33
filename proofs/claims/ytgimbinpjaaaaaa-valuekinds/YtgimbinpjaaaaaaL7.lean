/-
  The law ValueKinds: the walk.
-/
import Derived.Test.YtgimbinpjaaaaaaAsk
import Derived.Test.YtgimbinpjaaaaaaMath2
import Derived.Deep.CutRange
namespace Go.Proofs.Ytgimbinpjaaaaaa
open Go.RowKit

/-- Two values laid in blocks of their own, in the one order and in the other. -/
theorem two_made {w wr : World} (hb : Below w.heap.size w wr) (x y : Int × Int × ByteArray) :
    Holds ((wr.alloc (.cells #[.int .i64 x.1, .int .i64 x.2.1, .string x.2.2] 24)).alloc (.cells #[.int .i64 y.1, .int .i64 y.2.1, .string y.2.2] 24)).drew wr.heap.size 0 x ∧
    Holds ((wr.alloc (.cells #[.int .i64 x.1, .int .i64 x.2.1, .string x.2.2] 24)).alloc (.cells #[.int .i64 y.1, .int .i64 y.2.1, .string y.2.2] 24)).drew (wr.heap.size + 1) 0 y ∧
    Below w.heap.size w ((wr.alloc (.cells #[.int .i64 x.1, .int .i64 x.2.1, .string x.2.2] 24)).alloc (.cells #[.int .i64 y.1, .int .i64 y.2.1, .string y.2.2] 24)).drew := by
  have hs := hb.size
  exact ⟨⟨by simp, by simp, by simp⟩, ⟨by simp, by simp, by simp⟩, ((hb.alloc hb.size _).alloc (by simp; omega) _).drew⟩
theorem two_made' {w wr : World} (hb : Below w.heap.size w wr) (x y : Int × Int × ByteArray) :
    Holds ((wr.alloc (.cells #[.int .i64 y.1, .int .i64 y.2.1, .string y.2.2] 24)).alloc (.cells #[.int .i64 x.1, .int .i64 x.2.1, .string x.2.2] 24)).drew (wr.heap.size + 1) 0 x ∧
    Holds ((wr.alloc (.cells #[.int .i64 y.1, .int .i64 y.2.1, .string y.2.2] 24)).alloc (.cells #[.int .i64 x.1, .int .i64 x.2.1, .string x.2.2] 24)).drew wr.heap.size 0 y ∧
    Below w.heap.size w ((wr.alloc (.cells #[.int .i64 y.1, .int .i64 y.2.1, .string y.2.2] 24)).alloc (.cells #[.int .i64 x.1, .int .i64 x.2.1, .string x.2.2] 24)).drew :=
  ⟨(two_made hb y x).2.1, (two_made hb y x).1, (two_made hb y x).2.2⟩

theorem ans_ok' {k n : Int} {s : ByteArray} {k' n' : Int} {s' : ByteArray} (h : M.Ok k n s) (h' : M.Ok k' n' s') : ans k n s k' n' s' = M.rcmpV k n s k' n' s' := by
  rw [ans, if_pos ⟨h, h'⟩, M.rcmp_eq h h']

/-- How two values stand, by kind, number and bytes. -/
theorem kinds_facts {ka na : Int} {sa : ByteArray} {kb nb : Int} {sb : ByteArray} (hO : M.Ok ka na sa) (hP : M.Ok kb nb sb) :
    (ans ka na sa kb nb sb = -1 ∧ ka < kb) ∨
    (ans ka na sa kb nb sb = -1 ∧ ka = kb ∧ na < nb) ∨
    (ans ka na sa kb nb sb = -1 ∧ ka = kb ∧ na = nb ∧ Op.bytesLess sa.toList sb.toList = true) ∨
    (ans ka na sa kb nb sb = 0 ∧ ka = kb ∧ na = nb ∧ sa = sb ∧ Op.bytesLess sa.toList sa.toList = false) ∨
    (ans ka na sa kb nb sb = 1 ∧ ¬ ka < kb ∧ ¬ ka = kb) ∨
    (ans ka na sa kb nb sb = 1 ∧ ka = kb ∧ ¬ na < nb ∧ ¬ na = nb ∧ Op.bytesLess sa.toList sb.toList = false) ∨
    (ans ka na sa kb nb sb = 1 ∧ ka = kb ∧ na = nb ∧ Op.bytesLess sa.toList sb.toList = false ∧ ¬ sa.toList = sb.toList) := by
  rw [ans_ok' hO hP]
  rcases M.lt_total ka na sa kb nb sb with h | ⟨rfl, rfl, rfl⟩ | h
  · rw [M.rcmp_lt h]
    rcases h with h | ⟨rfl, h | ⟨rfl, h⟩⟩
    · exact Or.inl ⟨rfl, h⟩
    · exact Or.inr (Or.inl ⟨rfl, rfl, h⟩)
    · exact Or.inr (Or.inr (Or.inl ⟨rfl, rfl, rfl, h⟩))
  · rw [M.rcmp_self]; exact Or.inr (Or.inr (Or.inr (Or.inl ⟨rfl, rfl, rfl, rfl, M.less_irrefl _⟩)))
  · rw [M.rcmp_gt h]
    rcases h with h | ⟨rfl, h | ⟨rfl, h⟩⟩
    · exact Or.inr (Or.inr (Or.inr (Or.inr (Or.inl ⟨rfl, by omega, by omega⟩))))
    · refine Or.inr (Or.inr (Or.inr (Or.inr (Or.inr (Or.inl ⟨rfl, rfl, by omega, by omega, ?_⟩)))))
      have e : sa.size = 0 ∧ sb.size = 0 := by
        rcases hO with ⟨h1, h2, h3⟩ | ⟨h1, h3⟩ | ⟨h1, h2, h3⟩ <;> rcases hP with ⟨g1, g2, g3⟩ | ⟨g1, g3⟩ | ⟨g1, g2, g3⟩ <;> omega
      rw [M.toList_nil e.1, M.toList_nil e.2]; rfl
    · refine Or.inr (Or.inr (Or.inr (Or.inr (Or.inr (Or.inr ⟨rfl, rfl, rfl, M.less_asymm _ _ h, ?_⟩)))))
      intro e; rw [e, M.less_irrefl] at h; cases h

theorem null_facts {ka na : Int} {sa : ByteArray} (hO : M.Ok ka na sa) :
    (ka = 0 ∧ err 0 0 ⟨#[]⟩ ka na sa = 0 ∧ ans 0 0 ⟨#[]⟩ ka na sa = 0) ∨ (¬ ka < 1 ∧ err 0 0 ⟨#[]⟩ ka na sa = 0 ∧ ans 0 0 ⟨#[]⟩ ka na sa = -1) := by
  have h0 : M.Ok 0 0 ⟨#[]⟩ := Or.inl ⟨rfl, rfl, rfl⟩
  have he : err 0 0 ⟨#[]⟩ ka na sa = 0 := by rw [err, if_pos ⟨h0, hO⟩]
  have ha : ans 0 0 ⟨#[]⟩ ka na sa = M.cmpV 0 0 ⟨#[]⟩ ka na sa := by rw [ans, if_pos ⟨h0, hO⟩]
  rw [ha, he]
  by_cases hk : ka = 0
  · subst hk; exact Or.inl ⟨rfl, rfl, by simp [M.cmpV]⟩
  · have hk1 : 1 ≤ ka := by rcases hO with ⟨h1, _⟩ | ⟨h1, _⟩ | ⟨h1, _⟩ <;> omega
    refine Or.inr ⟨by omega, rfl, ?_⟩
    have hk2 : (0 : Int) ≠ ka := fun e => hk e.symm
    rw [M.cmpV, if_pos hk2, M.cmpI, if_pos (by omega)]

set_option maxRecDepth 100000 in
set_option maxHeartbeats 8000000 in
theorem kinds_walk (v : Value) (len : Nat) (A B C : Nat → Int × Int × ByteArray) (T : Nat → Int) (w : World) (hA : Asks w v len A B C T) :
    Calls Try.prog 7 #[v] w fun e w' => e = .returned (.bool true) ∧ Below w.heap.size w w' := by
  obtain ⟨a, cap, rfl, hmax, hA⟩ := hA
  go_enter Try.func7, Try.ntmps7
  go_wp2
  go_loopw [3] (fun i wr => ∃ k : Nat, k ≤ len ∧ k ≤ 30 ∧ i = .int .i64 k ∧ Below w.heap.size w wr) (fun i _ => 30 - (intOf i).toNat)
  case atStart => exact ⟨0, by omega, by omega, rfl, Below.refl _ _⟩
  case round =>
    obtain ⟨k, hk, hk30, rfl, hb⟩ := hrel
    by_cases hlt : k < len ∧ k < 30
    · obtain ⟨h1, h2⟩ := hlt
      obtain ⟨b, o, rfl, hc⟩ := hA (by omega)
      obtain ⟨hA', hB', -, -⟩ := hc k h1
      have HA := Hid.mk' (hA'.below hb)
      have HB := Hid.mk' (hB'.below hb)
      generalize A k = x at *
      generalize B k = y at *
      obtain ⟨ka, na, sa⟩ := x
      obtain ⟨kb, nb, sb⟩ := y
      clear hc hA hA' hB'
      obtain ⟨c0, c1, c2⟩ := HA.out
      obtain ⟨d0, d1, d2⟩ := HB.out
      simp only at c0 c1 c2 d0 d1 d2
      go_upto_region 4 with fail
      go_cut [4, 5] from 11 to 100 (fun u4 u5 wx => ∃ pa pb, u4 = .pointer (some ⟨pa, 0, none⟩) ∧ u5 = .pointer (some ⟨pb, 0, none⟩) ∧ Holds wx pa 0 (ka, na, sa) ∧ Holds wx pb 0 (kb, nb, sb) ∧ Below w.heap.size w wx)
      case first =>
        go_region_held3 (fun w' => w'.cell? ⟨b, o + k * 10, none⟩ = some (.int .i64 ka) ∧ w'.cell? ⟨b, o + k * 10 + 1, none⟩ = some (.int .i64 na) ∧ w'.cell? ⟨b, o + k * 10 + 2, none⟩ = some (.string sa) ∧ w'.cell? ⟨b, o + k * 10 + 3, none⟩ = some (.int .i64 kb) ∧ w'.cell? ⟨b, o + k * 10 + 3 + 1, none⟩ = some (.int .i64 nb) ∧ w'.cell? ⟨b, o + k * 10 + 3 + 2, none⟩ = some (.string sb)) (first | assumption | go_keep) (first | fail)
        all_goals
          go_wp2_with fail
          go_meet
        case rel =>
          obtain ⟨zA, zB, q⟩ := two_made hb (ka, na, sa) (kb, nb, sb)
          exact ⟨_, _, rfl, rfl, zA, zB, q⟩
        case rel =>
          obtain ⟨zA, zB, q⟩ := two_made' hb (ka, na, sa) (kb, nb, sb)
          exact ⟨_, _, rfl, rfl, zA, zB, q⟩
      case rest =>
        obtain ⟨pa, pb, rfl, rfl, zA, zB, q⟩ := hcut
        clear HA HB c0 c1 c2 d0 d1 d2 hb
        have c0 : wc.cell? ⟨pa, 0, none⟩ = some (.int .i64 ka) := zA.1
        have c1 : wc.cell? ⟨pa, 1, none⟩ = some (.int .i64 na) := zA.2.1
        have c2 : wc.cell? ⟨pa, 2, none⟩ = some (.string sa) := zA.2.2
        have d0 : wc.cell? ⟨pb, 0, none⟩ = some (.int .i64 kb) := zB.1
        have d1 : wc.cell? ⟨pb, 1, none⟩ = some (.int .i64 nb) := zB.2.1
        have d2 : wc.cell? ⟨pb, 2, none⟩ = some (.string sb) := zB.2.2
        clear zA zB
        go_wp2_with fail
        refine (may_any _ _ _ _).mono ?_
        rintro e wN ⟨rfl, hbN⟩
        replace c0 := cell_on hbN c0; replace c1 := cell_on hbN c1; replace c2 := cell_on hbN c2; replace d0 := cell_on hbN d0; replace d1 := cell_on hbN d1; replace d2 := cell_on hbN d2
        replace q := q.trans (hbN.mono q.size)
        clear hbN
        by_cases hO : M.Ok ka na sa
        · have t1 : decide (M.Ok ka na sa) = true := by simp [hO]
          by_cases hP : M.Ok kb nb sb
          · have t2 : decide (M.Ok kb nb sb) = true := by simp [hP]
            have e1 : err ka na sa kb nb sb = 0 := by simp [err, hO, hP]
            have HF := Hid.mk' (kinds_facts hO hP)
            have HG := Hid.mk' (null_facts hO)
            clear hO hP
            rcases HF.out with ⟨a1, g1⟩ | ⟨a1, rfl, g1⟩ | ⟨a1, rfl, rfl, g1⟩ | ⟨a1, rfl, rfl, rfl, g1⟩ | ⟨a1, g0, g1⟩ | ⟨a1, rfl, g0, g1, g2⟩ | ⟨a1, rfl, rfl, g1, g2⟩
            all_goals
              clear HF
              rcases HG.out with ⟨rfl, n1, n2⟩ | ⟨n0, n1, n2⟩
            all_goals
              clear HG
              go_wp2_with (first
                | (go_at_call 8; refine (may_any _ _ _ _).mono ?_; rintro e wN ⟨rfl, hbN⟩; replace c0 := cell_on hbN c0; replace c1 := cell_on hbN c1; replace c2 := cell_on hbN c2; replace d0 := cell_on hbN d0; replace d1 := cell_on hbN d1; replace d2 := cell_on hbN d2; replace q := q.trans (hbN.mono q.size); clear hbN)
                | (go_at_call 13; refine (num_any _ _).mono ?_; rintro e wN ⟨rfl, rfl⟩)
                | (go_at_call 11; refine (cmp_any _ _ _ _ _ _ _).mono ?_; rintro e wN ⟨rfl, hbN⟩; replace c0 := cell_on hbN c0; replace c1 := cell_on hbN c1; replace c2 := cell_on hbN c2; replace d0 := cell_on hbN d0; replace d1 := cell_on hbN d1; replace d2 := cell_on hbN d2; replace q := q.trans (hbN.mono q.size); clear hbN))
              go_roundw
              case rel => exact ⟨k + 1, by omega, by omega, by go_num, q⟩
              case measure => simp [intOf]; omega
          · have t2 : decide (M.Ok kb nb sb) = false := by simp [hP]
            clear hO hP
            go_wp2_with (first
              | (go_at_call 8; refine (may_any _ _ _ _).mono ?_; rintro e wN ⟨rfl, hbN⟩; replace c0 := cell_on hbN c0; replace c1 := cell_on hbN c1; replace c2 := cell_on hbN c2; replace d0 := cell_on hbN d0; replace d1 := cell_on hbN d1; replace d2 := cell_on hbN d2; replace q := q.trans (hbN.mono q.size); clear hbN))
            go_roundw
            case rel => exact ⟨k + 1, by omega, by omega, by go_num, q⟩
            case measure => simp [intOf]; omega
        · have t1 : decide (M.Ok ka na sa) = false := by simp [hO]
          clear hO
          go_wp2_with fail
          go_roundw
          case rel => exact ⟨k + 1, by omega, by omega, by go_num, q⟩
          case measure => simp [intOf]; omega
    · have t : k < len → ¬ k < 30 := fun h1 h2 => hlt ⟨h1, h2⟩
      by_cases h1 : k < len
      all_goals
        go_wp2_with fail
        refine (wakes_any _).mono ?_
        rintro e w3 ⟨rfl, hb3⟩
        go_wp2
        go_ret
        exact ⟨rfl, hb.trans (hb3.mono hb.size)⟩
end Go.Proofs.Ytgimbinpjaaaaaa
