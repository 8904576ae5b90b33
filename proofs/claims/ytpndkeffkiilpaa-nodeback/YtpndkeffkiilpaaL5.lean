/-
  The walk of the law NodeRooms.
-/
import Derived.Test.YtpndkeffkiilpaaAsk
namespace Go.Proofs.Ytpndkeffkiilpaa
open Go.ChangeShapes Go.WideShapes Go.ChangeAt Go.RowKit Go.Deep

theorem light_need {LL : List (List Nat)} {l : List Nat} (h : LL.length ≤ 300 ∧ l.length + M.sumlen LL ≤ 3000) : M.need LL ≤ 6300 := by
  have := M.need_le LL
  omega
theorem sumlen_mem : ∀ {LL : List (List Nat)} {c : List Nat}, c ∈ LL → c.length ≤ M.sumlen LL
  | d :: LL, c, h => by
    show _ ≤ d.length + M.sumlen LL
    rcases List.mem_cons.1 h with rfl | h
    · omega
    · have := sumlen_mem h; omega

set_option maxRecDepth 100000 in
set_option maxHeartbeats 2000000 in
theorem rooms_walk (v : Value) (len : Nat) (Q : Nat → QA) (w : World) (hA : Asks w v len Q) :
    Calls Try.prog 5 #[v] w fun e w' => e = .returned (.bool true) ∧ Below w.heap.size w w' := by
  obtain ⟨a, cap, rfl, hlen, ha⟩ := hA
  go_enter Try.func5, Try.ntmps5
  go_wp2
  go_loopw [3] (fun i wr => ∃ k : Nat, k ≤ len ∧ k ≤ 6 ∧ i = .int .i64 k ∧ Below w.heap.size w wr) (fun i _ => 6 - (intOf i).toNat)
  case atStart => exact ⟨0, by omega, by omega, rfl, Below.refl _ _⟩
  case round =>
    obtain ⟨k, hk, hk6, rfl, hb⟩ := hrel
    have hsz := hb.size
    by_cases hlt : k < len ∧ k < 6
    · obtain ⟨h1, h2⟩ := hlt
      obtain ⟨b, o, rfl, hc⟩ := ha (by omega)
      obtain ⟨⟨c0, c1, c2, c3⟩, _, _, hC, hC9, hP, _, _, hP9⟩ := hc k h1
      replace c0 := cell_on hb c0
      replace c1 := cell_on hb c1
      replace c2 := cell_on hb c2
      replace c3 := cell_on hb c3
      have HC := Hid.mk' (hC.below hb)
      have HP := Hid.mk' (hP.below hb)
      have HH := Hid.mk' (heavy_any (Q k).k (Q k).n (Q k).vc (Q k).vp _ _ wr HC.out HP.out hP9 (fun c hc => (hC9 c hc).2))
      clear hc ha hC hP hC9 hP9
      generalize Q k = q at *
      obtain ⟨qk, qn, vc, L, vp, P⟩ := q
      simp only [QA.k, QA.n, QA.vc, QA.L, QA.vp, QA.P] at *
      obtain ⟨va, vn, rfl⟩ := HC.out.slice
      obtain ⟨pa, pn, rfl⟩ := HP.out.slice
      generalize hLl : L.length = nL at *
      generalize hPl : P.length = nP at *
      go_wp2_with fail
      refine HH.out.mono ?_
      rintro e w2 ⟨r, rfl, hr, hb2⟩
      have q2 : Below w.heap.size w w2 := hb.trans (hb2.mono hsz)
      have hz2 := q2.size
      replace c0 := cell_on hb2 c0
      replace c1 := cell_on hb2 c1
      replace c2 := cell_on hb2 c2
      replace c3 := cell_on hb2 c3
      cases r with
      | true =>
        clear hr
        go_wp2
        go_ret
        exact ⟨rfl, q2⟩
      | false =>
        have hneed := light_need (hr rfl)
        have HC2 := Hid.mk' (HC.out.below hb2)
        have HR1 := Hid.mk' (fun w1 (h : Below w2.heap.size w2 w1) => room_any _ L w1 (HC2.out.below h) (by omega))
        have HR2 := Hid.mk' (fun w1 (h : Below w2.heap.size w2 w1) => rroom_any _ L w1 (HC2.out.below h) (by omega))
        clear hr hb2 HC HP HH
        generalize M.room L = rm at *
        have hne : (rm != rm) = false := by simp
        go_upto_region 6 with fail
        go_cut [31] from 19 to 31 (fun u wx => u = .bool false ∧ Below w.heap.size w wx)
        case first =>
          have hbn : Below w2.heap.size w2 w2.drew := (Below.refl _ _).drew
          have hS := Hid.mk' (show (fun w' : World => w'.cell? ⟨b, o + k * 4 + 2, none⟩ = some (.slice va nL vn)) w2.drew from cell_on hbn c2)
          go_region_held3 (fun w' : World => w'.cell? ⟨b, o + k * 4 + 2, none⟩ = some (.slice va nL vn)) (first | exact hS.out | assumption | go_keep)
            (first
              | (go_at_call 14; refine (HR1.out _ hbn).mono ?_; rintro e' w3 ⟨rfl, hb3⟩; replace hbn := hbn.trans (hb3.mono hbn.size); have hS := Hid.mk' (show (fun w' : World => w'.cell? ⟨b, o + k * 4 + 2, none⟩ = some (.slice va nL vn)) w3 from cell_on hbn c2); clear hb3)
              | (go_at_call 8; refine (HR2.out _ hbn).mono ?_; rintro e' w3 ⟨rfl, hb3⟩; replace hbn := hbn.trans (hb3.mono hbn.size); have hS := Hid.mk' (show (fun w' : World => w'.cell? ⟨b, o + k * 4 + 2, none⟩ = some (.slice va nL vn)) w3 from cell_on hbn c2); clear hb3))
          all_goals
            go_wp2_with fail
            go_meet
            exact ⟨by simp, q2.trans (hbn.mono hz2)⟩
        case rest =>
          obtain ⟨rfl, hbx⟩ := hcut
          clear c0 c1 c2 c3 HR1 HR2
          go_wp2
          go_roundw
          case rel => exact ⟨k + 1, by omega, by omega, by go_num, hbx⟩
          case measure => simp [intOf]; omega
    · have t : k < len → ¬ k < 6 := fun h1 h2 => hlt ⟨h1, h2⟩
      clear ha
      by_cases h1 : k < len
      all_goals
        go_wp2_with fail
        refine (wakes_any _).mono ?_
        rintro e w3 ⟨rfl, hb3⟩
        have q3 : Below w.heap.size w w3 := hb.trans (hb3.mono hsz)
        clear hb3
        go_wp2
        go_ret
        exact ⟨rfl, q3⟩
end Go.Proofs.Ytpndkeffkiilpaa
