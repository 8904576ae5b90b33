/-
  The contract of what Write does to a disk: to a file that is there.
-/
import Derived.Test.YtchbheoapldkaaaGreatWu
import Derived.Test.YtchbheoapldkaaaGreatSo
namespace Go.Proofs.YtchbheoapldkaaaGreat
open Go.RowKit Go.Maps

theorem has_pos {N : List ByteArray} {t : ByteArray} (hr : M.rise N) (h : M.has N t = true) : M.pos N t < N.length ∧ N.getD (M.pos N t) M.e0 = t := by
  unfold M.has at h
  rw [List.any_eq_true] at h
  obtain ⟨x, hx, hxt⟩ := h
  obtain rfl : x = t := by simpa using hxt
  obtain ⟨j, hj, rfl⟩ := List.getElem_of_mem hx
  have e : N.getD j M.e0 = N[j] := by simp [List.getD_eq_getElem?_getD, hj]
  have hp : M.pos N N[j] = j := by
    refine M.pos_is N[j] N j (by omega) (fun i hi => ?_) (fun _ => ?_)
    · have := M.rise_at hr hi hj
      rw [e] at this
      exact this
    · rw [e]; exact M.less_self _
  rw [hp]
  exact ⟨hj, e⟩

set_option maxRecDepth 100000 in
set_option maxHeartbeats 2000000 in
theorem write1_there {w : World} {D mb : Nat} {v : Value} {L : List FR} {f : Int → Int} {s : Int} {off : Bool} (h : Dk w D mb v L f s off) (hr : M.rise (names L)) (t : ByteArray) (ht : M.has (names L) t = true)
    (p : Nat) (ba : Option Addr) (bc : Nat) (b : List Nat) (hb : Sees w (.slice ba b.length bc) b) (hbf : ∀ a, ba = some a → a.block ∉ foot D mb v L) (hb1 : 1 ≤ b.length) (hp : p + b.length ≤ 4194304)
    {q0 q1 q2 q3 : Nat} (c0 : w.cell? ⟨q0, 0, none⟩ = some (.pointer (some ⟨D, 0, none⟩))) (c1 : w.cell? ⟨q1, 0, none⟩ = some (.string t)) (c2 : w.cell? ⟨q2, 0, none⟩ = some (.int .i64 p)) (c3 : w.cell? ⟨q3, 0, none⟩ = some (.slice ba b.length bc))
    (hq : q0 ∉ foot D mb v L ∧ q2 ∉ foot D mb v L ∧ q3 ∉ foot D mb v L) :
    Calls Tryz.prog 129 #[.pointer (some ⟨q0, 0, none⟩), .pointer (some ⟨q1, 0, none⟩), .pointer (some ⟨q2, 0, none⟩), .pointer (some ⟨q3, 0, none⟩)] w fun e w' => ∃ r, e = .returned (.int .i64 r) ∧ r = 0 ∧
      ∃ nv', Turned w D mb v L f s off (L.set (M.pos (names L) t) ((L.getD (M.pos (names L) t) z0).nm, (L.getD (M.pos (names L) t) z0).sv, nv', (L.getD (M.pos (names L) t) z0).safe, M.put (L.getD (M.pos (names L) t) z0).seen p b)) w' := by
  have HFi := Hid.mk' (find_any h hr t)
  obtain ⟨hi, _⟩ := has_pos hr ht
  rw [names_length] at hi
  rw [ht] at HFi
  generalize M.pos (names L) t = i at *
  obtain ⟨a, c, rfl, _, _, hrow⟩ := owns_files h.2.1.1
  obtain ⟨g, rfl, _⟩ := hrow (by omega)
  have HD := Hid.mk' h
  have HI := Hid.mk' hi
  have HQ := Hid.mk' hq
  have HB := Hid.mk' hb
  have HBf := Hid.mk' hbf
  clear h hrow hq hb hbf ht
  go_enter Tryz.func129, Tryz.ntmps129
  go_wp2_with fail
  refine HFi.out.mono ?_
  rintro e w1 ⟨rfl, hb1'⟩
  replace c0 := cell_on hb1' c0
  replace c1 := cell_on hb1' c1
  replace c2 := cell_on hb1' c2
  replace c3 := cell_on hb1' c3
  have HD1 := Hid.mk' (HD.out.on hb1')
  have d0 := HD1.out.cells.1
  have HB1 := Hid.mk' (HB.out.below hb1')
  have HBw := Hid.mk' hb1'
  clear HFi HB hb1'
  go_upto_region 6 with fail
  have hS := Hid.mk' (show (fun w' : World => w'.cell? ⟨q0, 0, none⟩ = some (.pointer (some ⟨D, 0, none⟩)) ∧ w'.cell? ⟨q2, 0, none⟩ = some (.int .i64 p) ∧ w'.cell? ⟨q3, 0, none⟩ = some (.slice ba b.length bc) ∧ w'.cell? ⟨D, 0, none⟩ = some (.slice (some ⟨g, 0, none⟩) L.length c)) w1 from ⟨c0, c2, c3, d0⟩)
  go_region_held3 (fun w' : World => w'.cell? ⟨q0, 0, none⟩ = some (.pointer (some ⟨D, 0, none⟩)) ∧ w'.cell? ⟨q2, 0, none⟩ = some (.int .i64 p) ∧ w'.cell? ⟨q3, 0, none⟩ = some (.slice ba b.length bc) ∧ w'.cell? ⟨D, 0, none⟩ = some (.slice (some ⟨g, 0, none⟩) L.length c)) (first | exact hS.out | assumption | go_keep)
    (first | (go_at_call 131; refine (fwrite_any (HD1.out.on (Below.refl _ _).drew) HI.out rfl p _ b (HB1.out.drew) (fun a n c' e => HBf.out a (by simpa using (by simpa using e : _ ∧ _ ∧ _).1)) hb1 hp).mono ?_; rintro e' w2 ⟨rfl, nv', hT⟩; have hS := Hid.mk' (show (fun w' : World => w'.cell? ⟨q0, 0, none⟩ = some (.pointer (some ⟨D, 0, none⟩)) ∧ w'.cell? ⟨q2, 0, none⟩ = some (.int .i64 p) ∧ w'.cell? ⟨q3, 0, none⟩ = some (.slice ba b.length bc) ∧ w'.cell? ⟨D, 0, none⟩ = some (.slice (some ⟨g, 0, none⟩) L.length c)) w2 from ⟨hT.2.1.cell c0 HQ.out.1, hT.2.1.cell c2 HQ.out.2.1, hT.2.1.cell c3 HQ.out.2.2, hT.1.cells.1⟩)))
  all_goals
    have HT : Hid (∃ nv', Turned w D mb (.slice (some ⟨g, 0, none⟩) L.length c) L f s off (L.set i ((L.getD i z0).nm, (L.getD i z0).sv, nv', (L.getD i z0).safe, M.put (L.getD i z0).seen p b)) w2) := ⟨nv', (hT.since (Below.refl _ _).drew).since HBw.out⟩
    clear hT
    go_wp2
    go_ret
    exact ⟨_, rfl, rfl, HT.out⟩
end Go.Proofs.YtchbheoapldkaaaGreat
