/-
  The contract of what Write does to a disk: to a file that is there.
  The contract of what strokeAt hands to stroke, over each function that it is handed.
  The contract of the file's sync.
  The contracts of Write to a file that is there, in the light, and at the stroke that puts the power off.
  The contracts of Sync of a file that is there, in the light, and at the stroke that puts the power off.
-/
import Derived.Test.YtjimhikfmccicaaGreatMg5
import Derived.Test.YtjimhikfmccicaaGreatNe
import Derived.Test.YtjimhikfmccicaaGreatMg4
namespace Go.Proofs.YtjimhikfmccicaaGreat
open Go.RowKit Go.Maps

theorem has_pos {N : List ByteArray} {t : ByteArray} (hr : M.rise N) (h : M.has N t = true) : M.pos N t < N.length ∧ N.getD (M.pos N t) M.e0 = t := by
  unfold M.has at h
  rw [List.any_eq_true] at h
  obtain ⟨x, hx, hxt⟩ := h
  obtain rfl : x = t := by simpa using hxt
  obtain ⟨j, hj, rfl⟩ := List.getElem_of_mem hx
  have e : N.getD j M.e0 = N[j] := by simp [List.getD_eq_getElem?_getD, hj]
  have hp : M.pos N N[j] = j := by
    refine M.pos_is N[j] N j (by omega) (fun i hi => ?_) (fun _ => ?_)
    · have := M.rise_at hr hi hj
      rw [e] at this
      exact this
    · rw [e]; exact M.less_self _
  rw [hp]
  exact ⟨hj, e⟩

set_option maxRecDepth 100000 in
set_option maxHeartbeats 2000000 in
theorem write1_there {w : World} {D mb : Nat} {v : Value} {L : List FR} {f : Int → Int} {s : Int} {off : Bool} (h : Dk w D mb v L f s off) (hr : M.rise (names L)) (t : ByteArray) (ht : M.has (names L) t = true)
    (p : Nat) (ba : Option Addr) (bc : Nat) (b : List Nat) (hb : Sees w (.slice ba b.length bc) b) (hbf : ∀ a, ba = some a → a.block ∉ foot D mb v L) (hb1 : 1 ≤ b.length) (hp : p + b.length ≤ 4194304)
    {q0 q1 q2 q3 : Nat} (c0 : w.cell? ⟨q0, 0, none⟩ = some (.pointer (some ⟨D, 0, none⟩))) (c1 : w.cell? ⟨q1, 0, none⟩ = some (.string t)) (c2 : w.cell? ⟨q2, 0, none⟩ = some (.int .i64 p)) (c3 : w.cell? ⟨q3, 0, none⟩ = some (.slice ba b.length bc))
    (hq : q0 ∉ foot D mb v L ∧ q2 ∉ foot D mb v L ∧ q3 ∉ foot D mb v L) :
    Calls Tryz.prog 130 #[.pointer (some ⟨q0, 0, none⟩), .pointer (some ⟨q1, 0, none⟩), .pointer (some ⟨q2, 0, none⟩), .pointer (some ⟨q3, 0, none⟩)] w fun e w' => ∃ r, e = .returned (.int .i64 r) ∧ r = 0 ∧
      ∃ nv', Turned w D mb v L f s off (L.set (M.pos (names L) t) ((L.getD (M.pos (names L) t) z0).nm, (L.getD (M.pos (names L) t) z0).sv, nv', (L.getD (M.pos (names L) t) z0).safe, M.put (L.getD (M.pos (names L) t) z0).seen p b)) w' := by
  have HFi := Hid.mk' (find_any h hr t)
  obtain ⟨hi, _⟩ := has_pos hr ht
  rw [names_length] at hi
  rw [ht] at HFi
  generalize M.pos (names L) t = i at *
  obtain ⟨a, c, rfl, _, _, hrow⟩ := owns_files h.2.1.1
  obtain ⟨g, rfl, _⟩ := hrow (by omega)
  have HD := Hid.mk' h
  have HI := Hid.mk' hi
  have HQ := Hid.mk' hq
  have HB := Hid.mk' hb
  have HBf := Hid.mk' hbf
  clear h hrow hq hb hbf ht
  go_enter Tryz.func130, Tryz.ntmps130
  go_wp2_with fail
  refine HFi.out.mono ?_
  rintro e w1 ⟨rfl, hb1'⟩
  replace c0 := cell_on hb1' c0
  replace c1 := cell_on hb1' c1
  replace c2 := cell_on hb1' c2
  replace c3 := cell_on hb1' c3
  have HD1 := Hid.mk' (HD.out.on hb1')
  have d0 := HD1.out.cells.1
  have HB1 := Hid.mk' (HB.out.below hb1')
  have HBw := Hid.mk' hb1'
  clear HFi HB hb1'
  go_upto_region 6 with fail
  have hS := Hid.mk' (show (fun w' : World => w'.cell? ⟨q0, 0, none⟩ = some (.pointer (some ⟨D, 0, none⟩)) ∧ w'.cell? ⟨q2, 0, none⟩ = some (.int .i64 p) ∧ w'.cell? ⟨q3, 0, none⟩ = some (.slice ba b.length bc) ∧ w'.cell? ⟨D, 0, none⟩ = some (.slice (some ⟨g, 0, none⟩) L.length c)) w1 from ⟨c0, c2, c3, d0⟩)
  go_region_held3 (fun w' : World => w'.cell? ⟨q0, 0, none⟩ = some (.pointer (some ⟨D, 0, none⟩)) ∧ w'.cell? ⟨q2, 0, none⟩ = some (.int .i64 p) ∧ w'.cell? ⟨q3, 0, none⟩ = some (.slice ba b.length bc) ∧ w'.cell? ⟨D, 0, none⟩ = some (.slice (some ⟨g, 0, none⟩) L.length c)) (first | exact hS.out | assumption | go_keep)
    (first | (go_at_call 132; refine (fwrite_any (HD1.out.on (Below.refl _ _).drew) HI.out rfl p _ b (HB1.out.drew) (fun a n c' e => HBf.out a (by simpa using (by simpa using e : _ ∧ _ ∧ _).1)) hb1 hp).mono ?_; rintro e' w2 ⟨rfl, nv', hT⟩; have hS := Hid.mk' (show (fun w' : World => w'.cell? ⟨q0, 0, none⟩ = some (.pointer (some ⟨D, 0, none⟩)) ∧ w'.cell? ⟨q2, 0, none⟩ = some (.int .i64 p) ∧ w'.cell? ⟨q3, 0, none⟩ = some (.slice ba b.length bc) ∧ w'.cell? ⟨D, 0, none⟩ = some (.slice (some ⟨g, 0, none⟩) L.length c)) w2 from ⟨hT.2.1.cell c0 HQ.out.1, hT.2.1.cell c2 HQ.out.2.1, hT.2.1.cell c3 HQ.out.2.2, hT.1.cells.1⟩)))
  all_goals
    have HT : Hid (∃ nv', Turned w D mb (.slice (some ⟨g, 0, none⟩) L.length c) L f s off (L.set i ((L.getD i z0).nm, (L.getD i z0).sv, nv', (L.getD i z0).safe, M.put (L.getD i z0).seen p b)) w2) := ⟨nv', (hT.since (Below.refl _ _).drew).since HBw.out⟩
    clear hT
    go_wp2
    go_ret
    exact ⟨_, rfl, rfl, HT.out⟩

set_option maxRecDepth 100000 in
set_option maxHeartbeats 400000 in
theorem at1_sync1 {w : World} {D mb : Nat} {v : Value} {L : List FR} {f : Int → Int} {s : Int} {off : Bool} (h : Dk w D mb v L f s off) (hr : M.rise (names L)) (t : ByteArray) (ht : M.has (names L) t = true) (k0 : Value)
    {q0 q1 q2 : Nat} (c0 : w.cell? ⟨q0, 0, none⟩ = some (.pointer (some ⟨D, 0, none⟩))) (c1 : w.cell? ⟨q1, 0, none⟩ = some (.string t)) (c2 : w.cell? ⟨q2, 0, none⟩ = some (.func (.func 119) #[] #[k0])) {R : World → Prop}
    (H : ∀ w1, Below w.heap.size w w1 → Calls Tryz.prog 119 #[.int .i64 (M.pos (names L) t : Nat), k0] w1 fun e w' => e = .returned (.tuple #[]) ∧ R w') :
    Calls Tryz.prog 133 #[.pointer (some ⟨q0, 0, none⟩), .pointer (some ⟨q1, 0, none⟩), .pointer (some ⟨q2, 0, none⟩)] w fun e w' => ∃ r, e = .returned (.int .i64 r) ∧ (r = 0 ∧ R w') := by
  have HFi := Hid.mk' (find_any h hr t)
  rw [ht] at HFi
  have HH := Hid.mk' H
  generalize M.pos (names L) t = i at *
  clear h ht H
  go_enter Tryz.func133, Tryz.ntmps133
  go_wp2_with fail
  refine HFi.out.mono ?_
  rintro e w1 ⟨rfl, hb⟩
  replace c2 := cell_on hb c2
  have HC := Hid.mk' (HH.out w1 hb)
  clear HFi hb HH
  go_wp2_with fail
  refine HC.out.mono ?_
  rintro e w2 ⟨rfl, hR⟩
  have HR := Hid.mk' hR
  clear hR
  go_wp2
  go_ret
  exact ⟨_, rfl, rfl, HR.out⟩

set_option maxRecDepth 100000 in
set_option maxHeartbeats 400000 in
theorem at1_trunc1 {w : World} {D mb : Nat} {v : Value} {L : List FR} {f : Int → Int} {s : Int} {off : Bool} (h : Dk w D mb v L f s off) (hr : M.rise (names L)) (t : ByteArray) (ht : M.has (names L) t = true) (k0 k1 : Value)
    {q0 q1 q2 : Nat} (c0 : w.cell? ⟨q0, 0, none⟩ = some (.pointer (some ⟨D, 0, none⟩))) (c1 : w.cell? ⟨q1, 0, none⟩ = some (.string t)) (c2 : w.cell? ⟨q2, 0, none⟩ = some (.func (.func 118) #[] #[k0, k1])) {R : World → Prop}
    (H : ∀ w1, Below w.heap.size w w1 → Calls Tryz.prog 118 #[.int .i64 (M.pos (names L) t : Nat), k0, k1] w1 fun e w' => e = .returned (.tuple #[]) ∧ R w') :
    Calls Tryz.prog 133 #[.pointer (some ⟨q0, 0, none⟩), .pointer (some ⟨q1, 0, none⟩), .pointer (some ⟨q2, 0, none⟩)] w fun e w' => ∃ r, e = .returned (.int .i64 r) ∧ (r = 0 ∧ R w') := by
  have HFi := Hid.mk' (find_any h hr t)
  rw [ht] at HFi
  have HH := Hid.mk' H
  generalize M.pos (names L) t = i at *
  clear h ht H
  go_enter Tryz.func133, Tryz.ntmps133
  go_wp2_with fail
  refine HFi.out.mono ?_
  rintro e w1 ⟨rfl, hb⟩
  replace c2 := cell_on hb c2
  have HC := Hid.mk' (HH.out w1 hb)
  clear HFi hb HH
  go_wp2_with fail
  refine HC.out.mono ?_
  rintro e w2 ⟨rfl, hR⟩
  have HR := Hid.mk' hR
  clear hR
  go_wp2
  go_ret
  exact ⟨_, rfl, rfl, HR.out⟩

set_option maxRecDepth 100000 in
set_option maxHeartbeats 400000 in
theorem at1_del1 {w : World} {D mb : Nat} {v : Value} {L : List FR} {f : Int → Int} {s : Int} {off : Bool} (h : Dk w D mb v L f s off) (hr : M.rise (names L)) (t : ByteArray) (ht : M.has (names L) t = true) (k0 : Value)
    {q0 q1 q2 : Nat} (c0 : w.cell? ⟨q0, 0, none⟩ = some (.pointer (some ⟨D, 0, none⟩))) (c1 : w.cell? ⟨q1, 0, none⟩ = some (.string t)) (c2 : w.cell? ⟨q2, 0, none⟩ = some (.func (.func 121) #[] #[k0])) {R : World → Prop}
    (H : ∀ w1, Below w.heap.size w w1 → Calls Tryz.prog 121 #[.int .i64 (M.pos (names L) t : Nat), k0] w1 fun e w' => e = .returned (.tuple #[]) ∧ R w') :
    Calls Tryz.prog 133 #[.pointer (some ⟨q0, 0, none⟩), .pointer (some ⟨q1, 0, none⟩), .pointer (some ⟨q2, 0, none⟩)] w fun e w' => ∃ r, e = .returned (.int .i64 r) ∧ (r = 0 ∧ R w') := by
  have HFi := Hid.mk' (find_any h hr t)
  rw [ht] at HFi
  have HH := Hid.mk' H
  generalize M.pos (names L) t = i at *
  clear h ht H
  go_enter Tryz.func133, Tryz.ntmps133
  go_wp2_with fail
  refine HFi.out.mono ?_
  rintro e w1 ⟨rfl, hb⟩
  replace c2 := cell_on hb c2
  have HC := Hid.mk' (HH.out w1 hb)
  clear HFi hb HH
  go_wp2_with fail
  refine HC.out.mono ?_
  rintro e w2 ⟨rfl, hR⟩
  have HR := Hid.mk' hR
  clear hR
  go_wp2
  go_ret
  exact ⟨_, rfl, rfl, HR.out⟩

set_option maxRecDepth 100000 in
set_option maxHeartbeats 400000 in
theorem at1_none {w : World} {D mb : Nat} {v : Value} {L : List FR} {f : Int → Int} {s : Int} {off : Bool} (h : Dk w D mb v L f s off) (hr : M.rise (names L)) (t : ByteArray) (ht : M.has (names L) t = false) (k2 : Value)
    {q0 q1 : Nat} (c0 : w.cell? ⟨q0, 0, none⟩ = some (.pointer (some ⟨D, 0, none⟩))) (c1 : w.cell? ⟨q1, 0, none⟩ = some (.string t)) :
    Calls Tryz.prog 133 #[.pointer (some ⟨q0, 0, none⟩), .pointer (some ⟨q1, 0, none⟩), k2] w fun e w' => ∃ r, e = .returned (.int .i64 r) ∧ (r = 2 ∧ Below w.heap.size w w') := by
  have HFi := Hid.mk' (find_any h hr t)
  rw [ht] at HFi
  generalize M.pos (names L) t = i at *
  clear h ht
  go_enter Tryz.func133, Tryz.ntmps133
  go_wp2_with fail
  refine HFi.out.mono ?_
  rintro e w1 ⟨rfl, hb⟩
  have HB := Hid.mk' hb
  clear HFi hb
  go_wp2
  go_ret
  exact ⟨_, rfl, rfl, HB.out⟩

set_option maxRecDepth 100000 in
set_option maxHeartbeats 2000000 in
theorem fsync_any {w : World} {D mb : Nat} {v : Value} {L : List FR} {f : Int → Int} {s : Int} {off : Bool} (h : Dk w D mb v L f s off) {i : Nat} (hi : i < L.length) {g c : Nat} (hv : v = .slice (some ⟨g, 0, none⟩) L.length c) :
    Calls Tryz.prog 120 #[.pointer (some ⟨g, i * 3, none⟩)] w fun e w' => e = .returned (.tuple #[]) ∧
      ∃ sv', Turned w D mb v L f s off (L.set i ((L.getD i z0).nm, sv', (L.getD i z0).nv, (L.getD i z0).seen, (L.getD i z0).seen)) w' := by
  obtain ⟨hsv, hnv⟩ := h.2.2.1 _ (getD_mem L hi)
  obtain ⟨ha, hsn, _⟩ := h.apart hi
  have hrow := owns_files h.2.1.1
  have hvo : v.ownBlock = some g := by rw [hv]; rfl
  obtain ⟨a', c', he, _, _, hrow⟩ := hrow
  obtain ⟨g', hg', hrow⟩ := hrow (by omega)
  obtain rfl : g = g' := by rw [hv] at he; rw [hg'] at he; simpa using (by simpa using he : g = g' ∧ _).1
  obtain ⟨_, c1, c2, hfr⟩ := hrow i hi
  obtain ⟨sa, sc, hsl, hsc, hscm⟩ := hsv.slice
  obtain ⟨na, nc, hnl, _, _⟩ := hnv.slice
  have hn4 := hnv.2
  have hcut : Rw w (.slice sa 0 sc) [] := by
    have h1 := hsv
    rw [hsl] at h1
    have h2 := h1.cut (n := 0) (by omega)
    rw [M.sz_cut _ (by omega), List.take_zero] at h2
    exact h2
  have hob : (Value.slice sa 0 sc).ownBlock = (L.getD i z0).sv.ownBlock := by rw [hsl]; cases sa <;> rfl
  have hgn : ∀ k, (Value.slice sa 0 sc).ownBlock = some k → k ≠ g := fun k hk e => by
    refine ha g hvo ?_
    simp only [feet1, List.mem_append]
    left
    rw [← hob, hk, e]
    simp
  have HA : Hid (∃ v' w', (Builtin.append_ #[54, 54] 54 #[.slice sa 0 sc, .slice na (L.getD i z0).seen.length nc]).run Tryz.prog w.drew = .ok v' w' ∧ ((∃ a n c, v' = .slice a n c) ∧ w'.cell? ⟨g, i * 3 + 1, none⟩ = some (L.getD i z0).sv ∧ w'.cell? ⟨g, i * 3 + 2, none⟩ = some (.slice na (L.getD i z0).seen.length nc) ∧ w'.frozen? ⟨g, i * 3 + 1, none⟩ = false ∧
      ∃ sv', Turned w D mb v L f s off (L.set i ((L.getD i z0).nm, sv', (L.getD i z0).nv, (L.getD i z0).seen, (L.getD i z0).seen)) (w'.setCell ⟨g, i * 3 + 1, none⟩ v'))) := by
    have hse := hnv.sees
    rw [hnl] at hse
    obtain ⟨v', w', hr, ho, hg1, hb1⟩ := append_bytes w.drew (.slice sa 0 sc) [] ((Fr.refl [] w).drew.rw hcut (fun _ _ hk => by cases hk)).1 _ (L.getD i z0).seen hse.drew (by rw [List.length_nil, Nat.zero_add]; omega)
    rw [List.nil_append] at ho
    have hg2 : w.grownBy w' (L.getD i z0).sv.ownBlock := by rw [← hob]; exact ⟨hg1.os, hg1.tape, hg1.output, hg1.size, hg1.block⟩
    have hgl : g < w.heap.size := World.block_lt_of_cell? _ _ c1
    have hne : some g ≠ (Value.slice sa 0 sc).ownBlock := fun e => hgn g e.symm rfl
    have hR : Rw w' v' (L.getD i z0).seen := ⟨ho, hn4⟩
    obtain ⟨a5, x5, rfl, _, _⟩ := hR.slice
    refine ⟨_, w', hr, ⟨_, _, _, rfl⟩, hg1.cell (a := ⟨g, i * 3 + 1, none⟩) c1 hne, hg1.cell (a := ⟨g, i * 3 + 2, none⟩) (by rw [← hnl]; exact c2) hne, ?_, _, h.safe hi hv hg2 hR (by rw [← hob]; exact hb1)⟩
    exact (World.frozen?_of_block (hg1.block g hgl hne)).trans (hfr _)
  rw [hnl] at c2
  rw [hsl] at c1
  rw [hsl] at HA
  generalize L.getD i z0 = x at *
  generalize hsle : x.safe.length = sl at *
  generalize hnle : x.seen.length = nl at *
  clear h hsv hnv ha hsn he hrow hcut hob hgn hsl hnl hv hvo hg' hsle hnle
  have hS := Hid.mk' (show (fun w' : World => w'.cell? ⟨g, i * 3 + 2, none⟩ = some (.slice na nl nc)) w.drew from c2)
  go_enter Tryz.func120, Tryz.ntmps120
  go_upto_region 0 with fail
  refine wp_region_held_drew (S := (fun w' : World => w'.cell? ⟨g, i * 3 + 2, none⟩ = some (.slice na nl nc))) (by kernel_rfl) (hS.out) (fun hS => ?_)
  refine wpAnyH_take (i := 0) (v := ?_) rfl (by kernel_rfl) (by kernel_rfl) (by kernel_rfl) (fun _ _ _ h => h) (Or.inl ⟨by rfl, ?_⟩) hS ?_
  rotate_left
  · (intro w hSw; (try dsimp only at hSw); go_simp; try (with_reducible rfl))
  try simp only [Act.put, List.setIfInBounds_toArray]
  refine wpAnyH_take (i := 1) (v := ?_) rfl (by kernel_rfl) (by kernel_rfl) (by kernel_rfl) (fun _ _ _ h => h) (Or.inl ⟨by rfl, ?_⟩) hS ?_
  rotate_left
  · (intro w hSw; (try dsimp only at hSw); go_simp; try (with_reducible rfl))
  try simp only [Act.put]
  refine wpAnyH_take (i := 2) (v := ?_) rfl (by kernel_rfl) (by kernel_rfl) (by kernel_rfl) (fun _ _ _ h => h) (Or.inl ⟨by rfl, ?_⟩) hS ?_
  rotate_left
  · (intro w hSw; (try dsimp only at hSw); go_simp; try (with_reducible rfl))
  try simp only [Act.put]
  refine wpAnyH_take (i := 3) (v := ?_) rfl (by kernel_rfl) (by kernel_rfl) (by kernel_rfl) (fun _ _ _ h => h) (Or.inl ⟨by rfl, ?_⟩) hS ?_
  rotate_left
  · (intro w hSw; (try dsimp only at hSw); go_simp; try (with_reducible rfl))
  try simp only [Act.put]
  refine wpAnyH_take (i := 6) (v := ?_) rfl (by kernel_rfl) (by kernel_rfl) (by kernel_rfl) (fun _ _ _ h => h) (Or.inl ⟨by rfl, ?_⟩) hS ?_
  rotate_left
  · (intro w hSw; (try dsimp only at hSw); go_simp; try (with_reducible rfl))
  try simp only [Act.put]
  refine wpAnyH_take (i := 7) (v := ?_) rfl (by kernel_rfl) (by kernel_rfl) (by kernel_rfl) (fun _ _ _ h => h) (Or.inl ⟨by rfl, ?_⟩) hS ?_
  rotate_left
  · (intro w hSw; (try dsimp only at hSw); go_simp; try (with_reducible rfl))
  try simp only [Act.put]
  refine wpAnyH_take (i := 8) (v := ?_) rfl (by kernel_rfl) (by kernel_rfl) (by kernel_rfl) (fun _ _ _ h => h) (Or.inl ⟨by rfl, ?_⟩) hS ?_
  rotate_left
  · (intro w hSw; (try dsimp only at hSw); go_simp; try (with_reducible rfl))
  try simp only [Act.put]
  refine wpAnyH_take (i := 9) (v := ?_) rfl (by kernel_rfl) (by kernel_rfl) (by kernel_rfl) (fun _ _ _ h => h) (Or.inl ⟨by rfl, ?_⟩) hS ?_
  rotate_left
  · (intro w hSw; (try dsimp only at hSw); go_simp; try (with_reducible rfl))
  try simp only [Act.put]
  refine wpAnyH_ready (rs := [4]) (by kernel_rfl) (by simp) ?_
  refine (AllReadyH.cons rfl (fun K hK => ?_) AllReadyH.nil)
  go_simp
  refine hK.out _ _ hS (fun hS => ?_)
  clear hK K
  try simp only [Act.put, List.setIfInBounds_toArray, List.set_cons_zero, List.set_cons_succ]
  refine wpAnyH_take (i := 5) (v := ?_) rfl (by kernel_rfl) (by kernel_rfl) (by kernel_rfl) (fun _ _ _ h => h) (Or.inl ⟨by rfl, ?_⟩) hS ?_
  rotate_left
  · (intro w hSw; (try dsimp only at hSw); go_simp; try (with_reducible rfl))
  try simp only [Act.put, List.setIfInBounds_toArray]
  refine wpAnyH_ready (rs := [10]) (by kernel_rfl) (by simp) ?_
  refine (AllReadyH.cons rfl (fun K hK => ?_) AllReadyH.nil)
  refine step_append_ex (by rfl) _ _ 54 (by rfl) (.slice sa 0 sc) _ (by rfl) (by rfl) HA.out ?_
  rintro v' w1 ⟨⟨a5, n5, x5, rfl⟩, k1, k2, f1, hT⟩
  refine hK.out _ _ k2 (fun hS => ?_)
  clear hK K
  try simp only [Act.put]
  refine wpAnyH_take (i := 11) (v := ?_) rfl (by kernel_rfl) (by kernel_rfl) (by kernel_rfl) (fun _ _ _ h => h) (Or.inl ⟨by rfl, ?_⟩) hS ?_
  rotate_left
  · (intro w hSw; (try dsimp only at hSw); go_simp; try (with_reducible rfl))
  try simp only [Act.put]
  refine wpAnyH_take (i := 12) (v := ?_) rfl (by kernel_rfl) (by kernel_rfl) (by kernel_rfl) (fun _ _ _ h => h) (Or.inl ⟨by rfl, ?_⟩) hS ?_
  rotate_left
  · (intro w hSw; (try dsimp only at hSw); go_simp; try (with_reducible rfl))
  try simp only [Act.put]
  refine wpAnyH_ready (rs := [13]) (by kernel_rfl) (by simp) ?_
  refine (AllReadyH.cons rfl (fun K hK => ?_) AllReadyH.nil)
  go_simp
  refine hK.out _ _ ((World.cell?_setCell_other _ _ _ _ (by simp)).trans hS) (fun hS => ?_)
  clear hK K
  try simp only [Act.put, List.setIfInBounds_toArray, List.set_cons_zero, List.set_cons_succ]
  refine wpAnyH_done (by kernel_rfl) ?_ _
  go_wp2
  go_end0
  exact ⟨rfl, hT⟩

theorem Turned.after {w W w' : World} {D mb : Nat} {v : Value} {L L' : List FR} {f : Int → Int} {s : Int} {off : Bool} (hF : Fr (foot D mb v L) w W) (h : Turned W D mb v L f s off L' w') : Turned w D mb v L f s off L' w' :=
  ⟨h.1, hF.trans h.2.1 (fun k hk => .inl hk), fun k hk => by
    rcases h.2.2 k hk with h1 | h1
    · exact .inl h1
    · exact .inr (Nat.le_trans hF.2.1 h1)⟩

/-- The disk behind a stroke that has been counted, and behind the power's going off. -/
theorem Dk.lit {w : World} {D mb : Nat} {v : Value} {L : List FR} {f : Int → Int} {s : Int} (h : Dk w D mb v L f s false) (s' : Int) (q : Nat) :
    Dk ((w.setCell ⟨D, 2, none⟩ (.int .i64 s')).drewN q) D mb v L f s' false ∧ Fr [D] w ((w.setCell ⟨D, 2, none⟩ (.int .i64 s')).drewN q) :=
  ⟨((Fr.refl [] _).drewN q).dk (h.stroked s').1 (fun _ _ hk => by cases hk), (Fr.of_set w ⟨D, 2, none⟩ _).drewN q⟩
theorem Dk.unlit {w : World} {D mb : Nat} {v : Value} {L : List FR} {f : Int → Int} {s : Int} (h : Dk w D mb v L f s false) (s' : Int) (q : Nat) :
    Dk (((w.setCell ⟨D, 2, none⟩ (.int .i64 s')).drewN q).setCell ⟨D, 3, none⟩ (.bool true)) D mb v L f s' true ∧ Fr [D] w (((w.setCell ⟨D, 2, none⟩ (.int .i64 s')).drewN q).setCell ⟨D, 3, none⟩ (.bool true)) :=
  ⟨(h.lit s' q).1.dark.1, (h.lit s' q).2.trans (Fr.of_set _ ⟨D, 3, none⟩ _) (fun _ hk => .inl hk)⟩

set_option maxRecDepth 100000 in
set_option maxHeartbeats 1000000 in
theorem write_there_do {w : World} {D mb : Nat} {v : Value} {L : List FR} {f : Int → Int} {s : Int} (h : Dk w D mb v L f s false) (hs : 0 ≤ s ∧ s ≤ 1000000) (hk : f (s + 1) = 0) (hr : M.rise (names L)) (t : ByteArray) (htn : M.nam t = true) (ht : M.has (names L) t = true)
    (p : Nat) (ba : Option Addr) (bc : Nat) (b : List Nat) (hb : Sees w (.slice ba b.length bc) b) (hbf : ∀ a, ba = some a → a.block ∉ foot D mb v L) (hb1 : 1 ≤ b.length) (hp : p + b.length ≤ 4194304) :
    Calls Tryz.prog 116 #[.pointer (some ⟨D, 0, none⟩), .string t, .int .i64 p, .slice ba b.length bc] w fun e w' => e = .returned (.int .i64 0) ∧
      ∃ nv', Turned w D mb v L f (s + 1) false (L.set (M.pos (names L) t) ((L.getD (M.pos (names L) t) z0).nm, (L.getD (M.pos (names L) t) z0).sv, nv', (L.getD (M.pos (names L) t) z0).safe, M.put (L.getD (M.pos (names L) t) z0).seen p b)) w' := by
  have hmf := mk_func
  have HN := Hid.mk' (name_any t)
  rw [htn] at HN
  have HL := Hid.mk' (length_any (p : Int))
  rw [show decide (0 ≤ (p : Int) ∧ (p : Int) ≤ 4194304) = true by rw [decide_eq_true_iff]; omega] at HL
  have HD := Hid.mk' h
  have t0 : ((b.length : Int) == 0) = false := by rw [beq_eq_false_iff_ne]; omega
  have t1 : decide ((4194304 : Int) - (p : Int) < (b.length : Int)) = false := by rw [decide_eq_false_iff_not]; omega
  have HW : Hid (∀ w1, Below w.heap.size w w1 → ∀ q0 q1 q2 q3, w1.cell? ⟨q0, 0, none⟩ = some (.pointer (some ⟨D, 0, none⟩)) → w1.cell? ⟨q1, 0, none⟩ = some (.string t) → w1.cell? ⟨q2, 0, none⟩ = some (.int .i64 p) → w1.cell? ⟨q3, 0, none⟩ = some (.slice ba b.length bc) → w.heap.size ≤ q0 → w.heap.size ≤ q1 → w.heap.size ≤ q2 → w.heap.size ≤ q3 →
      ∀ q, Calls Tryz.prog 130 #[.pointer (some ⟨q0, 0, none⟩), .pointer (some ⟨q1, 0, none⟩), .pointer (some ⟨q2, 0, none⟩), .pointer (some ⟨q3, 0, none⟩)] ((w1.setCell ⟨D, 2, none⟩ (.int .i64 (s + 1))).drewN q) fun e w' => ∃ r, e = .returned (.int .i64 r) ∧ (r = 0 ∧ ∃ nv', Turned w D mb v L f (s + 1) false (L.set (M.pos (names L) t) ((L.getD (M.pos (names L) t) z0).nm, (L.getD (M.pos (names L) t) z0).sv, nv', (L.getD (M.pos (names L) t) z0).safe, M.put (L.getD (M.pos (names L) t) z0).seen p b)) w')) := by
    show ∀ w1, _
    intro w1 hw1 q0 q1 q2 q3 c0 c1 c2 c3 g0 g1 g2 g3 q
    obtain ⟨hD2, hF2⟩ := (h.on hw1).lit (s + 1) q
    have hDl := h.lt D h.mem.1
    have hnf : ∀ k, w.heap.size ≤ k → k ∉ foot D mb v L := fun k hk hm => by have := h.lt k hm; omega
    have hFw := (Fr.of_below (fs := foot D mb v L) hw1).trans hF2 (fun k hk => .inl (by simp at hk; subst hk; exact h.mem.1))
    have hne : ∀ k, w.heap.size ≤ k → k ∉ [D] := fun k hk hm => by simp at hm; omega
    have hsb := hFw.sees hb (fun a n c e => hbf a (by simpa using (by simpa using e : _ ∧ _ ∧ _).1))
    refine (write1_there hD2 hr t ht p ba bc b hsb hbf hb1 hp (hF2.cell c0 (hne _ g0)) (hF2.cell c1 (hne _ g1)) (hF2.cell c2 (hne _ g2)) (hF2.cell c3 (hne _ g3)) ⟨hnf _ g0, hnf _ g2, hnf _ g3⟩).mono ?_
    rintro e w' ⟨r, rfl, hr0, nv', hT⟩
    exact ⟨r, rfl, hr0, nv', hT.after hFw⟩
  generalize M.pos (names L) t = i at *
  have HK := Hid.mk' hk
  clear h htn hb hbf ht hr hk
  go_enter Tryz.func116, Tryz.ntmps116
  go_wp2_with fail
  refine (HN.out _).mono ?_
  rintro e w1 ⟨rfl, hb1'⟩
  have q1 := cell_on hb1' (a := ⟨w.heap.size, 0, none⟩) (cells4 w (.pointer (some ⟨D, 0, none⟩)) (.string t) (.int .i64 p) (.slice ba b.length bc) _ _ _ _).1
  have q2 := cell_on hb1' (a := ⟨w.heap.size + 1, 0, none⟩) (cells4 w (.pointer (some ⟨D, 0, none⟩)) (.string t) (.int .i64 p) (.slice ba b.length bc) _ _ _ _).2.1
  have q3 := cell_on hb1' (a := ⟨w.heap.size + 2, 0, none⟩) (cells4 w (.pointer (some ⟨D, 0, none⟩)) (.string t) (.int .i64 p) (.slice ba b.length bc) _ _ _ _).2.2.1
  have q4 := cell_on hb1' (a := ⟨w.heap.size + 3, 0, none⟩) (cells4 w (.pointer (some ⟨D, 0, none⟩)) (.string t) (.int .i64 p) (.slice ba b.length bc) _ _ _ _).2.2.2
  replace hb1' : Below w.heap.size w w1 := (((((Below.refl _ _).alloc (Nat.le_refl _) _).alloc (by simp) _).alloc (by simp; omega) _).alloc (by simp; omega) _).trans (hb1'.mono (by simp; omega))
  have HB := Hid.mk' hb1'
  have HC := Hid.mk' (HW.out w1 hb1' _ _ _ _ q1 q2 q3 q4 (by omega) (by omega) (by omega) (by omega))
  clear hb1' HW
  go_wp2_with fail
  refine (HL.out _).mono ?_
  rintro e w2 ⟨rfl, hw2⟩
  obtain rfl := hw2.symm
  clear hw2
  go_wp2_with fail
  refine (stroke_write1_do (HD.out.on HB.out) hs _ _ _ _ HK.out HC.out).mono ?_
  rintro e w' ⟨r, rfl, rfl, hT⟩
  have HT := Hid.mk' hT
  clear hT
  go_wp2
  go_ret
  exact ⟨rfl, HT.out⟩

set_option maxRecDepth 100000 in
set_option maxHeartbeats 1000000 in
theorem write_there_off {w : World} {D mb : Nat} {v : Value} {L : List FR} {f : Int → Int} {s : Int} (h : Dk w D mb v L f s false) (hs : 0 ≤ s ∧ s ≤ 1000000) (hk : f (s + 1) = 3) (hr : M.rise (names L)) (t : ByteArray) (htn : M.nam t = true) (ht : M.has (names L) t = true)
    (p : Nat) (ba : Option Addr) (bc : Nat) (b : List Nat) (hb : Sees w (.slice ba b.length bc) b) (hbf : ∀ a, ba = some a → a.block ∉ foot D mb v L) (hb1 : 1 ≤ b.length) (hp : p + b.length ≤ 4194304) :
    Calls Tryz.prog 116 #[.pointer (some ⟨D, 0, none⟩), .string t, .int .i64 p, .slice ba b.length bc] w fun e w' => e = .returned (.int .i64 9) ∧
      ∃ nv', Turned w D mb v L f (s + 1) true (L.set (M.pos (names L) t) ((L.getD (M.pos (names L) t) z0).nm, (L.getD (M.pos (names L) t) z0).sv, nv', (L.getD (M.pos (names L) t) z0).safe, M.put (L.getD (M.pos (names L) t) z0).seen p b)) w' := by
  have hmf := mk_func
  have HN := Hid.mk' (name_any t)
  rw [htn] at HN
  have HL := Hid.mk' (length_any (p : Int))
  rw [show decide (0 ≤ (p : Int) ∧ (p : Int) ≤ 4194304) = true by rw [decide_eq_true_iff]; omega] at HL
  have HD := Hid.mk' h
  have t0 : ((b.length : Int) == 0) = false := by rw [beq_eq_false_iff_ne]; omega
  have t1 : decide ((4194304 : Int) - (p : Int) < (b.length : Int)) = false := by rw [decide_eq_false_iff_not]; omega
  have HW : Hid (∀ w1, Below w.heap.size w w1 → ∀ q0 q1 q2 q3, w1.cell? ⟨q0, 0, none⟩ = some (.pointer (some ⟨D, 0, none⟩)) → w1.cell? ⟨q1, 0, none⟩ = some (.string t) → w1.cell? ⟨q2, 0, none⟩ = some (.int .i64 p) → w1.cell? ⟨q3, 0, none⟩ = some (.slice ba b.length bc) → w.heap.size ≤ q0 → w.heap.size ≤ q1 → w.heap.size ≤ q2 → w.heap.size ≤ q3 →
      ∀ q, Calls Tryz.prog 130 #[.pointer (some ⟨q0, 0, none⟩), .pointer (some ⟨q1, 0, none⟩), .pointer (some ⟨q2, 0, none⟩), .pointer (some ⟨q3, 0, none⟩)] (((w1.setCell ⟨D, 2, none⟩ (.int .i64 (s + 1))).drewN q).setCell ⟨D, 3, none⟩ (.bool true)) fun e w' => ∃ r, e = .returned (.int .i64 r) ∧ (r = 0 ∧ ∃ nv', Turned w D mb v L f (s + 1) true (L.set (M.pos (names L) t) ((L.getD (M.pos (names L) t) z0).nm, (L.getD (M.pos (names L) t) z0).sv, nv', (L.getD (M.pos (names L) t) z0).safe, M.put (L.getD (M.pos (names L) t) z0).seen p b)) w')) := by
    show ∀ w1, _
    intro w1 hw1 q0 q1 q2 q3 c0 c1 c2 c3 g0 g1 g2 g3 q
    obtain ⟨hD2, hF2⟩ := (h.on hw1).unlit (s + 1) q
    have hDl := h.lt D h.mem.1
    have hnf : ∀ k, w.heap.size ≤ k → k ∉ foot D mb v L := fun k hk hm => by have := h.lt k hm; omega
    have hFw := (Fr.of_below (fs := foot D mb v L) hw1).trans hF2 (fun k hk => .inl (by simp at hk; subst hk; exact h.mem.1))
    have hne : ∀ k, w.heap.size ≤ k → k ∉ [D] := fun k hk hm => by simp at hm; omega
    have hsb := hFw.sees hb (fun a n c e => hbf a (by simpa using (by simpa using e : _ ∧ _ ∧ _).1))
    refine (write1_there hD2 hr t ht p ba bc b hsb hbf hb1 hp (hF2.cell c0 (hne _ g0)) (hF2.cell c1 (hne _ g1)) (hF2.cell c2 (hne _ g2)) (hF2.cell c3 (hne _ g3)) ⟨hnf _ g0, hnf _ g2, hnf _ g3⟩).mono ?_
    rintro e w' ⟨r, rfl, hr0, nv', hT⟩
    exact ⟨r, rfl, hr0, nv', hT.after hFw⟩
  generalize M.pos (names L) t = i at *
  have HK := Hid.mk' hk
  clear h htn hb hbf ht hr hk
  go_enter Tryz.func116, Tryz.ntmps116
  go_wp2_with fail
  refine (HN.out _).mono ?_
  rintro e w1 ⟨rfl, hb1'⟩
  have q1 := cell_on hb1' (a := ⟨w.heap.size, 0, none⟩) (cells4 w (.pointer (some ⟨D, 0, none⟩)) (.string t) (.int .i64 p) (.slice ba b.length bc) _ _ _ _).1
  have q2 := cell_on hb1' (a := ⟨w.heap.size + 1, 0, none⟩) (cells4 w (.pointer (some ⟨D, 0, none⟩)) (.string t) (.int .i64 p) (.slice ba b.length bc) _ _ _ _).2.1
  have q3 := cell_on hb1' (a := ⟨w.heap.size + 2, 0, none⟩) (cells4 w (.pointer (some ⟨D, 0, none⟩)) (.string t) (.int .i64 p) (.slice ba b.length bc) _ _ _ _).2.2.1
  have q4 := cell_on hb1' (a := ⟨w.heap.size + 3, 0, none⟩) (cells4 w (.pointer (some ⟨D, 0, none⟩)) (.string t) (.int .i64 p) (.slice ba b.length bc) _ _ _ _).2.2.2
  replace hb1' : Below w.heap.size w w1 := (((((Below.refl _ _).alloc (Nat.le_refl _) _).alloc (by simp) _).alloc (by simp; omega) _).alloc (by simp; omega) _).trans (hb1'.mono (by simp; omega))
  have HB := Hid.mk' hb1'
  have HC := Hid.mk' (HW.out w1 hb1' _ _ _ _ q1 q2 q3 q4 (by omega) (by omega) (by omega) (by omega))
  clear hb1' HW
  go_wp2_with fail
  refine (HL.out _).mono ?_
  rintro e w2 ⟨rfl, hw2⟩
  obtain rfl := hw2.symm
  clear hw2
  go_wp2_with fail
  refine (stroke_write1_off (HD.out.on HB.out) hs _ _ _ _ HK.out HC.out).mono ?_
  rintro e w' ⟨r, rfl, rfl, hT⟩
  have HT := Hid.mk' hT
  clear hT
  go_wp2
  go_ret
  exact ⟨rfl, HT.out⟩


set_option maxRecDepth 100000 in
set_option maxHeartbeats 400000 in
theorem sync1_lit {w : World} {D mb : Nat} {v : Value} {L : List FR} {f : Int → Int} {s : Int} (h : Dk w D mb v L f s false) {i : Nat} (hi : i < L.length) {q : Nat} (c0 : w.cell? ⟨q, 0, none⟩ = some (.pointer (some ⟨D, 0, none⟩))) :
    Calls Tryz.prog 119 #[.int .i64 i, .pointer (some ⟨q, 0, none⟩)] w fun e w' => e = .returned (.tuple #[]) ∧
      ∃ sv', Turned w D mb v L f s false (L.set i ((L.getD i z0).nm, sv', (L.getD i z0).nv, (L.getD i z0).seen, (L.getD i z0).seen)) w' := by
  obtain ⟨d0, _, _, d3, _⟩ := h.cells
  obtain ⟨a, c, rfl, hc, hcm, hrow⟩ := owns_files h.2.1.1
  obtain ⟨g, rfl, _⟩ := hrow (by omega)
  have HS := Hid.mk' (fsync_any h hi rfl)
  generalize L.getD i z0 = x at *
  clear h hrow
  go_enter Tryz.func119, Tryz.ntmps119
  go_wp2_with fail
  refine HS.out.mono ?_
  rintro e w1 ⟨rfl, hT⟩
  have HT := Hid.mk' hT
  clear hT
  go_wp2
  go_end0
  exact ⟨rfl, HT.out⟩

set_option maxRecDepth 100000 in
set_option maxHeartbeats 400000 in
theorem sync1_dark {w : World} {D mb : Nat} {v : Value} {L : List FR} {f : Int → Int} {s : Int} (h : Dk w D mb v L f s true) (i : Nat) {q : Nat} (c0 : w.cell? ⟨q, 0, none⟩ = some (.pointer (some ⟨D, 0, none⟩))) :
    Calls Tryz.prog 119 #[.int .i64 i, .pointer (some ⟨q, 0, none⟩)] w fun e w' => e = .returned (.tuple #[]) ∧ w' = w := by
  obtain ⟨d0, _, _, d3, _⟩ := h.cells
  clear h
  go_enter Tryz.func119, Tryz.ntmps119
  go_wp2
  go_end0
  exact ⟨rfl, rfl⟩
end Go.Proofs.YtjimhikfmccicaaGreat
