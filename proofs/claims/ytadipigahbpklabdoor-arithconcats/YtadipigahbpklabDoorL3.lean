/-
  The law ArithConcats: the walk.
-/
import Derived.Test.YtadipigahbpklabDoorD6
import Derived.Deep.CutRange
import Derived.Deep.RegionHeld3
namespace Go.Proofs.YtadipigahbpklabDoor
open Go.RowKit

theorem St.perm {w0 w : World} {l l' : List (Nat × Array Value × TypeId)} (S : St w0 w l) (h : l.Perm l') : St w0 w l' :=
  ⟨S.1, (h.map _).nodup_iff.1 S.2.1, fun x hx => S.2.2 x (h.mem_iff.2 hx)⟩

theorem ok_text {s : ByteArray} (h : s.size ≤ 4096) : M.Ok 2 0 s := Or.inr (Or.inr ⟨Or.inl rfl, rfl, h⟩)

/-- The ways of two values that are put together: refused, null, a text with what follows of it. -/
theorem all_ways (ka na : Int) (sa : ByteArray) (kb nb : Int) (sb : ByteArray) :
    (∃ k n s z, M.lcon ka na sa kb nb sb = (k, n, s, z) ∧ (z != 0) = true) ∨ M.lcon ka na sa kb nb sb = (0, 0, ⟨#[]⟩, 0) ∨
    (∃ x y k1 n1 k2 n2, M.lcon ka na sa kb nb sb = (2, 0, x ++ y, 0) ∧ x.size + y.size ≤ 4096 ∧ err1 ka na sa = 0 ∧ err1 kb nb sb = 0 ∧ M.ltext ka na sa = (k1, n1, x) ∧ M.ltext kb nb sb = (k2, n2, y) ∧
      M.llen ka na sa = (1, (x.size : Int), ByteArray.mk #[]) ∧ M.llen kb nb sb = (1, (y.size : Int), ByteArray.mk #[]) ∧ err1 2 0 (x ++ y) = 0 ∧ M.llen 2 0 (x ++ y) = (1, (x.size : Int) + (y.size : Int), ByteArray.mk #[]) ∧
      M.lcon 2 0 (x ++ y) 2 0 ⟨#[]⟩ = (2, 0, x ++ y, 0)) := by
  by_cases oa : M.Ok ka na sa
  · by_cases ob : M.Ok kb nb sb
    · have el : M.lcon ka na sa kb nb sb = M.rcon ka na sa kb nb sb := by rw [M.lcon, if_pos ⟨oa, ob⟩]
      rw [el]
      rcases con_ways ka na sa kb nb sb with ⟨z1, el⟩ | ⟨z1, z2, el⟩ | ⟨z1, z2, z3, el⟩ | ⟨z1, z2, z3, z4, el⟩ | ⟨z1, z2, z3, z4, x, y, ex, ey, ⟨hs, el⟩ | ⟨hs, el⟩⟩
      · exact Or.inr (Or.inl el)
      · exact Or.inr (Or.inl el)
      · exact Or.inl ⟨_, _, _, _, el, rfl⟩
      · exact Or.inl ⟨_, _, _, _, el, rfl⟩
      · exact Or.inl ⟨_, _, _, _, el, rfl⟩
      · have ka0 : ¬ ka = 0 := by simpa using z1
        have kb0 : ¬ kb = 0 := by simpa using z2
        have hxy : (x ++ y).size = x.size + y.size := ByteArray.size_append
        have oc : M.Ok 2 0 (x ++ y) := ok_text (by omega)
        refine Or.inr (Or.inr ⟨x, y, (M.rtext ka na sa).1, (M.rtext ka na sa).2.1, (M.rtext kb nb sb).1, (M.rtext kb nb sb).2.1, el, hs, err1_ok oa, err1_ok ob, ?_, ?_, ?_, ?_, err1_ok oc, ?_, ?_⟩)
        · rw [M.ltext, if_pos oa, ← ex, ← M.rtext_bytes]
        · rw [M.ltext, if_pos ob, ← ey, ← M.rtext_bytes]
        · rw [M.llen, if_pos oa, M.rlen, if_neg ka0, ex]
        · rw [M.llen, if_pos ob, M.rlen, if_neg kb0, ey]
        · rw [M.llen, if_pos oc, M.rlen, if_neg (by omega), M.btx_str (by omega), hxy, Int.natCast_add]
        · have ob2 : M.Ok 2 0 ⟨#[]⟩ := ok_text (by decide)
          have he : (x ++ y) ++ (⟨#[]⟩ : ByteArray) = x ++ y := by
            apply ByteArray.ext
            simp
          have h0 : (⟨#[]⟩ : ByteArray).size = 0 := rfl
          rw [M.lcon, if_pos ⟨oc, ob2⟩, M.rcon, if_neg (by omega), if_neg (by omega), M.btx_str (by omega), M.btx_str (by omega), if_neg (by rw [hxy, h0]; omega), he]
    · exact Or.inl ⟨_, _, _, _, by rw [M.lcon, if_neg (fun h => ob h.2)], rfl⟩
  · exact Or.inl ⟨_, _, _, _, by rw [M.lcon, if_neg (fun h => oa h.1)], rfl⟩

set_option maxRecDepth 100000 in
set_option maxHeartbeats 10000000 in
theorem concats_walk (v : Value) (len : Nat) (A B : Nat → Int × Int × ByteArray) (T : Nat → Int) (w : World) (hT : Tab w) (hA : Asks w v len A B T) :
    Calls Tryd.prog 3 #[v] w fun e w' => e = .returned (.bool true) ∧ Below w.heap.size w w' := by
  obtain ⟨a, cap, rfl, hmax, hA⟩ := hA
  have HT := Hid.mk' hT
  clear hT
  go_enter Tryd.func3, Tryd.ntmps3
  go_wp2
  go_loopw [3] (fun i wr => ∃ q : Nat, q ≤ len ∧ q ≤ 30 ∧ i = .int .i64 q ∧ Below w.heap.size w wr) (fun i _ => 30 - (intOf i).toNat)
  case atStart => exact ⟨0, by omega, by omega, rfl, Below.refl _ _⟩
  case round =>
    obtain ⟨q, hk, hk30, rfl, hb⟩ := hrel
    by_cases hlt : q < len ∧ q < 30
    · obtain ⟨h1, h2⟩ := hlt
      obtain ⟨b, o, rfl, hc⟩ := hA (by omega)
      obtain ⟨hA', hB', -, rA, rB⟩ := hc q h1
      have RA := Hid.mk' rA
      have RB := Hid.mk' rB
      clear rA rB
      have zA := hA'.below hb
      have zB := hB'.below hb
      clear hc hA hA' hB'
      generalize A q = x at *
      generalize B q = y at *
      obtain ⟨ka, na, sa⟩ := x
      obtain ⟨kb, nb, sb⟩ := y
      have c0 : wr.cell? ⟨b, o + q * 7, none⟩ = some (.int .i64 ka) := zA.1
      have c1 : wr.cell? ⟨b, o + q * 7 + 1, none⟩ = some (.int .i64 na) := zA.2.1
      have c2 : wr.cell? ⟨b, o + q * 7 + 2, none⟩ = some (.string sa) := zA.2.2
      have c3 : wr.cell? ⟨b, o + q * 7 + 3, none⟩ = some (.int .i64 kb) := zB.1
      have c4 : wr.cell? ⟨b, o + q * 7 + 3 + 1, none⟩ = some (.int .i64 nb) := zB.2.1
      have c5 : wr.cell? ⟨b, o + q * 7 + 3 + 2, none⟩ = some (.string sb) := zB.2.2
      clear zA zB
      have hd : decide ((q : Int) < 30) = true := by simp; omega
      have hi0 : (0 : Int) ≤ (q : Int) := by omega
      have hi1 : (q : Int) < (len : Int) := by omega
      go_upto_region 4 with fail
      try simp only [hd]
      clear hd
      go_cut [4, 5] from 20 to 137 (fun u4 u5 wx => ∃ pa pb, u4 = .pointer (some ⟨pa, 0, none⟩) ∧ u5 = .pointer (some ⟨pb, 0, none⟩) ∧ St w wx [(pb, V kb nb sb, 24), (pa, V ka na sa, 24)])
      case first => as_aux_lemma =>
        go_region_held3 (fun w' => w'.cell? ⟨b, o + q * 7, none⟩ = some (.int .i64 ka) ∧ w'.cell? ⟨b, o + q * 7 + 1, none⟩ = some (.int .i64 na) ∧ w'.cell? ⟨b, o + q * 7 + 2, none⟩ = some (.string sa) ∧ w'.cell? ⟨b, o + q * 7 + 3, none⟩ = some (.int .i64 kb) ∧ w'.cell? ⟨b, o + q * 7 + 3 + 1, none⟩ = some (.int .i64 nb) ∧ w'.cell? ⟨b, o + q * 7 + 3 + 2, none⟩ = some (.string sb)) (first | assumption | go_keep) (first | fail)
        all_goals
          go_wp2_with fail
          go_meet
        all_goals first
          | exact ⟨_, _, rfl, rfl, (((St.start hb).new wr.heap.size (V ka na sa) 24 rfl).new (wr.heap.size + 1) (V kb nb sb) 24 (by simp)).drew⟩
          | exact ⟨_, _, rfl, rfl, ((((St.start hb).new wr.heap.size (V kb nb sb) 24 rfl).new (wr.heap.size + 1) (V ka na sa) 24 (by simp)).drew).perm (List.Perm.swap _ _ _)⟩
      case rest => as_aux_lemma =>
        obtain ⟨pa, pb, rfl, rfl, S⟩ := hcut
        clear c0 c1 c2 c3 c4 c5 hb
        rcases all_ways ka na sa kb nb sb with ⟨kc, nc, sc, zc, e1, hz⟩ | e1 | ⟨x, y, k1, n1, k2, n2, e1, hs, e0, e9, e2, e3, e5, e6, e8, e4, e7⟩
        · as_aux_lemma =>
          obtain ⟨a0, a1, a2, ha⟩ := S.val 1 rfl
          obtain ⟨b0, b1, b2, hb⟩ := S.val 0 rfl
          go_wp2_with fail
          refine (con_any _ _ _ _ _ _ RA.out RB.out _ (HT.out.on S.1)).mono ?_
          rintro e w11 ⟨rfl, hbN⟩
          rw [e1]
          replace S := S.call hbN
          clear a0 a1 a2 ha b0 b1 b2 hb
          clear hbN
          go_wp2_with (go_at_call 5; refine (num_any _ _).mono ?_; rintro e wN ⟨rfl, rfl⟩)
          go_roundw
          case rel => exact ⟨q + 1, by omega, by omega, by go_num, (S.alloc _).1⟩
          case measure => simp [intOf]; omega
        · as_aux_lemma =>
          obtain ⟨a0, a1, a2, ha⟩ := S.val 1 rfl
          obtain ⟨b0, b1, b2, hb⟩ := S.val 0 rfl
          go_wp2_with fail
          refine (con_any _ _ _ _ _ _ RA.out RB.out _ (HT.out.on S.1)).mono ?_
          rintro e w11 ⟨rfl, hbN⟩
          rw [e1]
          replace S := S.call hbN
          clear a0 a1 a2 ha b0 b1 b2 hb
          clear hbN
          go_wp2_with (go_at_call 5; refine (num_any _ _).mono ?_; rintro e wN ⟨rfl, rfl⟩)
          go_roundw
          case rel => exact ⟨q + 1, by omega, by omega, by go_num, (S.alloc _).1⟩
          case measure => simp [intOf]; omega
        · as_aux_lemma =>
          obtain ⟨a0, a1, a2, ha⟩ := S.val 1 rfl
          obtain ⟨b0, b1, b2, hb⟩ := S.val 0 rfl
          go_wp2_with fail
          refine (con_any _ _ _ _ _ _ RA.out RB.out _ (HT.out.on S.1)).mono ?_
          rintro e w11 ⟨rfl, hbN⟩
          rw [e1]
          replace S := S.call hbN
          clear a0 a1 a2 ha b0 b1 b2 hb
          clear hbN
          obtain ⟨a0, a1, a2, ha⟩ := S.val 1 rfl
          go_wp2_with (go_at_call 5; refine (num_any _ _).mono ?_; rintro e wN ⟨rfl, rfl⟩)
          refine (text_any _ _ _ RA.out _ (HT.out.on (S.alloc _).1)).mono ?_
          rintro e w12 ⟨rfl, hbN⟩
          rw [e2, e0]
          replace S := (S.new w11.heap.size _ 24 rfl).call hbN
          clear a0 a1 a2 ha
          clear hbN
          obtain ⟨b0, b1, b2, hb⟩ := S.val 1 rfl
          go_wp2_with fail
          refine (text_any _ _ _ RB.out _ (HT.out.on (S.alloc _).1)).mono ?_
          rintro e w13 ⟨rfl, hbN⟩
          rw [e3, e9]
          replace S := (S.new w12.heap.size _ 24 rfl).call hbN
          clear b0 b1 b2 hb
          clear hbN
          obtain ⟨c0, c1, c2, hc⟩ := S.val 1 rfl
          go_wp2_with fail
          refine (len_any _ _ _ (by decide) _ (HT.out.on (S.alloc _).1)).mono ?_
          rintro e w14 ⟨rfl, hbN⟩
          rw [e4, e8]
          replace S := (S.new w13.heap.size _ 24 rfl).call hbN
          clear c0 c1 c2 hc
          clear hbN
          obtain ⟨a0, a1, a2, ha⟩ := S.val 4 rfl
          go_wp2_with fail
          refine (len_any _ _ _ RA.out _ (HT.out.on (S.alloc _).1)).mono ?_
          rintro e w15 ⟨rfl, hbN⟩
          rw [e5, e0]
          replace S := (S.new w14.heap.size _ 24 rfl).call hbN
          clear a0 a1 a2 ha
          clear hbN
          obtain ⟨b0, b1, b2, hb⟩ := S.val 4 rfl
          go_wp2_with fail
          refine (len_any _ _ _ RB.out _ (HT.out.on (S.alloc _).1)).mono ?_
          rintro e w16 ⟨rfl, hbN⟩
          rw [e6, e9]
          replace S := (S.new w15.heap.size _ 24 rfl).call hbN
          clear b0 b1 b2 hb
          clear hbN
          obtain ⟨c0, c1, c2, hc⟩ := S.val 4 rfl
          go_wp2_with fail
          refine (con_any _ _ _ _ _ _ (by decide) (by decide) _ (HT.out.on (S.alloc _).1)).mono ?_
          rintro e w17 ⟨rfl, hbN⟩
          rw [e7]
          replace S := (S.new w16.heap.size _ 24 rfl).call hbN
          clear c0 c1 c2 hc
          clear hbN
          go_upto_region 13 with fail
          replace S := S.new w17.heap.size (V 2 0 (x ++ y)) 24 rfl
          generalize w17.heap.size = ps at *
          generalize w17.alloc _ = w30 at *
          obtain ⟨c0, c1, c2, hc⟩ := S.val 6 rfl
          obtain ⟨x0, x1, x2, hx⟩ := S.val 5 rfl
          obtain ⟨y0, y1, y2, hy⟩ := S.val 4 rfl
          obtain ⟨n0, n1, n2, hn⟩ := S.val 3 rfl
          obtain ⟨m0, m1, m2, hm⟩ := S.val 2 rfl
          obtain ⟨k0, k1, k2, hk⟩ := S.val 1 rfl
          obtain ⟨sm0, sm1, sm2, hsm⟩ := S.val 0 rfl
          clear e0 e1 e2 e3 e4 e5 e6 e7 e8 e9
          have j1 : ¬ x.size + y.size > 9223372036854775807 := by omega
          have j3 : (x.size : Int) + (y.size : Int) ≤ 4096 := by omega
          go_wp2_with (go_at_call 5; refine (num_any _ _).mono ?_; rintro e wN ⟨rfl, rfl⟩)
          go_roundw
          case rel => exact ⟨q + 1, by omega, by omega, by go_num, S.1⟩
          case measure => simp [intOf]; omega
    · have t : q < len → ¬ q < 30 := fun h1 h2 => hlt ⟨h1, h2⟩
      by_cases h1 : q < len
      all_goals
        go_wp2_with fail
        refine (wakes_any _).mono ?_
        rintro e w3 ⟨rfl, hb3⟩
        go_wp2
        go_ret
        exact ⟨rfl, hb.trans (hb3.mono hb.size)⟩
end Go.Proofs.YtadipigahbpklabDoor
