/-
  A disk that nothing goes wrong with, as plain data; the pager's store over it: keep, found, there, size, read, write, cut, sync, remove.
  The mathematics of sums: words of four bytes, two words a step, modulo 2 to the 32nd; parts, noughts, a turned byte.
-/
import Derived.Test.YtjimhikfmccicaaGreatMg12
import Derived.Test.YtjimhikfmccicaaGreatMg10
import Derived.Test.YtjimhikfmccicaaGreatRows
namespace Go.Proofs.YtjimhikfmccicaaGreat
open Go.RowKit Go.Maps

theorem Sees.drop1 {w : World} {a : Option Addr} {ca : Nat} {l : List Nat} (h : Sees w (.slice a l.length ca) l) (k : Nat) (hk : k ≤ l.length) : Sees w (.slice (Option.map (fun x => x.add k) a) (l.length - k) (ca - k)) (l.drop k) := by
  obtain ⟨⟨a', c', he, hc⟩, hm⟩ := h
  obtain ⟨rfl, rfl⟩ : a = a' ∧ ca = c' := by simpa using he
  have hl : (l.drop k).length = l.length - k := by simp
  refine ⟨⟨Option.map (fun x => x.add k) a, ca - k, by rw [hl], fun h1 => ?_⟩, by omega⟩
  rw [hl] at h1
  obtain ⟨b, o, rfl, hj⟩ := hc (by omega)
  refine ⟨b, o + k, ?_, fun j hj' => ?_⟩
  · have : (⟨b, o, none⟩ : Addr).add k = ⟨b, o + k, none⟩ := by unfold Addr.add; split <;> simp_all
    rw [Option.map_some, this]
  · rw [hl] at hj'
    rw [Nat.add_assoc, hj (k + j) (by omega)]
    simp [List.getD_eq_getElem?_getD]


theorem num_any (n : Int) (w : World) : Calls Tryz.prog 9 #[.int .i64 n] w fun e w' => e = .returned (.int .i64 n) ∧ w' = w := by
  go_enter Tryz.func9, Tryz.ntmps9
  go_wp2
  go_ret
  exact ⟨rfl, rfl⟩

/-- A disk without troubles at block D: its files A, at most n strokes done, its blocks F. -/
def Dz (w : World) (D n : Nat) (A : List AF) (F : List Nat) : Prop :=
  ∃ mb dv L s, Dk w D mb dv L (first []) s false ∧ (0 ≤ s ∧ s ≤ n) ∧ M.rise (names L) ∧ L.map fabs = A ∧ foot D mb dv L = F
theorem Dz.lt {w : World} {D n : Nat} {A : List AF} {F : List Nat} (h : Dz w D n A F) : ∀ k ∈ F, k < w.heap.size := by
  obtain ⟨mb, dv, L, s, hD, _, _, _, rfl⟩ := h
  exact hD.lt
theorem Dz.fr {w w' : World} {D n : Nat} {A : List AF} {F : List Nat} (h : Dz w D n A F) {fs : List Nat} (hF : Fr fs w w') (hn : ∀ k ∈ F, k ∉ fs) : Dz w' D n A F := by
  obtain ⟨mb, dv, L, s, hD, hs, hr, hA, rfl⟩ := h
  exact ⟨mb, dv, L, s, hF.dk hD hn, hs, hr, hA, rfl⟩
theorem Dz.on {w w' : World} {D n : Nat} {A : List AF} {F : List Nat} (h : Dz w D n A F) (hb : Below w.heap.size w w') : Dz w' D n A F := h.fr (Fr.of_below (fs := []) hb) (fun _ _ hk => by cases hk)
theorem Dz.rise {w : World} {D n : Nat} {A : List AF} {F : List Nat} (h : Dz w D n A F) : M.rise (nmA A) := by
  obtain ⟨mb, dv, L, s, _, _, hr, rfl, _⟩ := h
  rw [nmA_fabs]
  exact hr
theorem Dz.more {w : World} {D n m : Nat} {A : List AF} {F : List Nat} (h : Dz w D n A F) (hm : n ≤ m) : Dz w D m A F := by
  obtain ⟨mb, dv, L, s, hD, hs, hr, hA, hf⟩ := h
  exact ⟨mb, dv, L, s, hD, by omega, hr, hA, hf⟩
/-- How a call leaves such a disk. -/
def DzM (w w' : World) (D n : Nat) (A : List AF) (F : List Nat) : Prop := ∃ F', Dz w' D n A F' ∧ Fr F w w' ∧ ∀ k ∈ F', k ∈ F ∨ w.heap.size ≤ k
theorem DzM.same {w w' : World} {D n : Nat} {A : List AF} {F : List Nat} (h : Dz w D n A F) (hb : Below w.heap.size w w') : DzM w w' D n A F := ⟨F, h.on hb, Fr.of_below hb, fun _ hk => .inl hk⟩
theorem DzM.below {w w1 w2 : World} {D n : Nat} {A : List AF} {F : List Nat} (h : DzM w w1 D n A F) (hb : Below w1.heap.size w1 w2) : DzM w w2 D n A F := by
  obtain ⟨F', h1, h2, h3⟩ := h
  exact ⟨F', h1.on hb, h2.trans (Fr.of_below (fs := []) hb) (fun k hk => by cases hk), h3⟩
theorem DzM.since {w w1 w2 : World} {D n : Nat} {A : List AF} {F : List Nat} (h : DzM w1 w2 D n A F) (hb : Below w.heap.size w w1) : DzM w w2 D n A F := by
  obtain ⟨F', h1, h2, h3⟩ := h
  exact ⟨F', h1, (Fr.of_below hb).trans h2 (fun k hk => .inl hk), fun k hk => (h3 k hk).imp id (fun h => Nat.le_trans hb.size h)⟩

/-- The pager's block: its store is the disk's, and was refused nothing. -/
def Ss (w : World) (P D : Nat) : Prop := ∃ cur : Array Value, w.heap[P]? = some (.cells cur 97 (0, 0)) ∧ cur[0]? = some (.pointer (some ⟨D, 0, none⟩)) ∧ cur[1]? = some (.int .i64 0)
theorem Ss.cells {w : World} {P D : Nat} (h : Ss w P D) : w.cell? ⟨P, 0, none⟩ = some (.pointer (some ⟨D, 0, none⟩)) ∧ w.cell? ⟨P, 1, none⟩ = some (.int .i64 0) ∧ w.frozen? ⟨P, 1, none⟩ = false := by
  obtain ⟨cur, h1, h2, h3⟩ := h
  exact ⟨(cell_of_row w P 0 cur _ (0, 0) h1).trans h2, (cell_of_row w P 1 cur _ (0, 0) h1).trans h3, by simp [World.frozen?, h1]⟩
theorem Ss.lt {w : World} {P D : Nat} (h : Ss w P D) : P < w.heap.size := by
  obtain ⟨cur, h1, _⟩ := h
  exact (Array.getElem?_eq_some_iff.1 h1).1
theorem Ss.fr {w w' : World} {P D : Nat} (h : Ss w P D) {fs : List Nat} (hF : Fr fs w w') (hn : P ∉ fs) : Ss w' P D := by
  have hl := h.lt
  obtain ⟨cur, h1, h2⟩ := h
  exact ⟨cur, (hF.2.2 P hl hn).trans h1, h2⟩
theorem Ss.on {w w' : World} {P D : Nat} (h : Ss w P D) (hb : Below w.heap.size w w') : Ss w' P D := h.fr (Fr.of_below (fs := []) hb) (by simp)
/-- A cell that is written as it was. -/
theorem below_same {w : World} {g i : Nat} {cur : Array Value} {t : TypeId} {u : Value} (h : w.heap[g]? = some (.cells cur t (0, 0))) (hu : cur[i]? = some u) : Below w.heap.size w (w.setCell ⟨g, i, none⟩ u) := by
  have hF : Fr [g] w (w.setCell ⟨g, i, none⟩ u) := Fr.of_set w ⟨g, i, none⟩ u
  refine ⟨hF.1.1, hF.1.2.1, hF.1.2.2, hF.2.1, fun k hk => ?_⟩
  by_cases e : k = g
  · subst e
    rw [heap_setCell_same w k i cur t u h, h]
    congr 2
    apply Array.ext'
    rw [Array.toList_setIfInBounds]
    apply List.ext_getElem?
    intro j
    rw [List.getElem?_set]
    by_cases hj : i = j
    · subst hj
      have hl := (Array.getElem?_eq_some_iff.1 hu).1
      rw [if_pos rfl, if_pos (by simpa using hl), Array.getElem?_toList, hu]
    · rw [if_neg hj]
  · exact hF.2.2 k hk (by simpa using e)

set_option maxRecDepth 100000 in
set_option maxHeartbeats 400000 in
theorem keep_any {w : World} {P D : Nat} (h : Ss w P D) : Calls Tryz.prog 99 #[.pointer (some ⟨P, 0, none⟩), .int .i64 0] w fun e w' => e = .returned (.tuple #[]) ∧ Below w.heap.size w w' := by
  obtain ⟨_, c1, f1⟩ := h.cells
  have HB : Hid (Below w.heap.size w (w.setCell ⟨P, 1, none⟩ (.int .i64 0))) := by
    obtain ⟨cur, h1, _, h3⟩ := h
    exact below_same h1 h3
  clear h
  go_enter Tryz.func99, Tryz.ntmps99
  go_wp2
  go_end0
  exact ⟨rfl, HB.out⟩

set_option maxRecDepth 100000 in
set_option maxHeartbeats 400000 in
theorem found_any {w : World} {P D : Nat} (h : Ss w P D) (b : Bool) (r : Int) (hr : r = if b = true then 0 else 2) : Calls Tryz.prog 92 #[.pointer (some ⟨P, 0, none⟩), .int .i64 r] w fun e w' => e = .returned (.bool b) ∧ w' = w := by
  obtain ⟨_, c1, _⟩ := h.cells
  clear h
  subst hr
  cases b
  all_goals
    go_enter Tryz.func92, Tryz.ntmps92
    go_wp2
    go_ret
    exact ⟨rfl, rfl⟩

/-- What is seen of a file. -/
def seenA (A : List AF) (t : ByteArray) : List Nat := if M.has (nmA A) t = true then (A.getD (M.pos (nmA A) t) zA).2.2 else []
def errA (A : List AF) (t : ByteArray) : Int := if M.has (nmA A) t = true then 0 else 2
theorem dsize_any {w : World} {D n : Nat} {A : List AF} {F : List Nat} (h : Dz w D n A F) (t : ByteArray) (ht : M.nam t = true) : Calls Tryz.prog 91 #[.pointer (some ⟨D, 0, none⟩), .string t] w fun e w' => e = .returned (.tuple #[.int .i64 ((seenA A t).length : Nat), .int .i64 (errA A t)]) ∧ Below w.heap.size w w' := by
  obtain ⟨mb, dv, L, s, hD, hs, hr, rfl, rfl⟩ := h
  unfold seenA errA
  rw [nmA_fabs]
  by_cases hh : M.has (names L) t = true
  · rw [if_pos hh, if_pos hh, fabs_getD]
    exact size_there hD hr t ht hh
  · rw [if_neg hh, if_neg hh]
    exact size_none hD hr t ht (by simpa using hh)
theorem dread_any {w : World} {D n : Nat} {A : List AF} {F : List Nat} (h : Dz w D n A F) (t : ByteArray) (ht : M.nam t = true) (p m : Nat) (hp : p ≤ 4194304) (hm : m ≤ 4194304) : Calls Tryz.prog 97 #[.pointer (some ⟨D, 0, none⟩), .string t, .int .i64 p, .int .i64 m] w fun e w' => ∃ a c, e = .returned (.tuple #[.slice a (((seenA A t).drop p).take m).length c, .int .i64 (errA A t)]) ∧ Rw w' (.slice a (((seenA A t).drop p).take m).length c) (((seenA A t).drop p).take m) ∧ (∀ k, (Value.slice a (((seenA A t).drop p).take m).length c).ownBlock = some k → w.heap.size ≤ k) ∧ Below w.heap.size w w' := by
  obtain ⟨mb, dv, L, s, hD, hs, hr, rfl, rfl⟩ := h
  unfold seenA errA
  rw [nmA_fabs]
  by_cases hh : M.has (names L) t = true
  · rw [if_pos hh, if_pos hh, fabs_getD]
    refine (read_any hD hr t ht hh p m hp hm).mono ?_
    rintro e w1 ⟨v', rfl, hR, hb1, hf1⟩
    obtain ⟨a, c, rfl, _, _⟩ := hR.slice
    exact ⟨a, c, rfl, hR, hf1, hb1⟩
  · rw [if_neg hh, if_neg hh]
    refine (read_none hD hr t ht (by simpa using hh) p m ⟨by omega, by omega⟩ ⟨by omega, by omega⟩).mono ?_
    rintro e w1 ⟨rfl, hb⟩
    exact ⟨none, 0, by simp, by simpa using Rw.nil w1, fun k hk => by simp [Value.ownBlock] at hk, hb⟩

/-- A stroke on a disk without troubles, by the model's word. -/
theorem dz_op {w w' : World} {D n : Nat} {mb : Nat} {dv : Value} {L : List FR} {s : Int} {q : S3} {e : Ending} (hs : 0 ≤ s ∧ s ≤ n) (hq : M.rise (nmA q.2.1)) (h : OpP w D mb dv L (first []) s false q e w') : e = .returned (.int .i64 q.1) ∧ DzM w w' D (n + 1) q.2.1 (foot D mb dv L) := by
  obtain ⟨he, v', L', hM, hL⟩ := h
  have e0 : first [] (s + 1) = 0 := rfl
  have em : mSt (L.map fabs) false (first [] (s + 1)) q = (q.1, q.2.1, false) := by rw [e0]; rfl
  rw [em] at he hM hL
  refine ⟨he, foot D mb v' L', ⟨mb, v', L', s + 1, hM.1, by omega, ?_, hL, rfl⟩, hM.2.1, hM.2.2⟩
  rw [← nmA_fabs, hL]
  exact hq
theorem first0 (j : Int) : first [] j = 0 ∨ first [] j = 1 ∨ first [] j = 2 ∨ first [] j = 3 := .inl rfl
theorem dsync_any {w : World} {D n : Nat} {A : List AF} {F : List Nat} (h : Dz w D n A F) (hn : n ≤ 1000000) (t : ByteArray) (ht : M.nam t = true) (hq : M.rise (nmA (mSync A t).2.1)) : Calls Tryz.prog 101 #[.pointer (some ⟨D, 0, none⟩), .string t] w fun e w' => e = .returned (.int .i64 (mSync A t).1) ∧ DzM w w' D (n + 1) (mSync A t).2.1 F := by
  obtain ⟨mb, dv, L, s, hD, hs, hr, rfl, rfl⟩ := h
  exact (sync_ex hD (by omega) (first0 _) hr t ht).mono (fun e w' q => dz_op hs hq q)
theorem ddelete_any {w : World} {D n : Nat} {A : List AF} {F : List Nat} (h : Dz w D n A F) (hn : n ≤ 1000000) (t : ByteArray) (ht : M.nam t = true) (hq : M.rise (nmA (mDel A t).2.1)) : Calls Tryz.prog 102 #[.pointer (some ⟨D, 0, none⟩), .string t] w fun e w' => e = .returned (.int .i64 (mDel A t).1) ∧ DzM w w' D (n + 1) (mDel A t).2.1 F := by
  obtain ⟨mb, dv, L, s, hD, hs, hr, rfl, rfl⟩ := h
  exact (delete_ex hD (by omega) (first0 _) hr t ht).mono (fun e w' q => dz_op hs hq q)
theorem dwrite_any {w : World} {D n : Nat} {A : List AF} {F : List Nat} (h : Dz w D n A F) (hn : n ≤ 1000000) (t : ByteArray) (ht : M.nam t = true) (p : Nat) (ba : Option Addr) (bc : Nat) (b : List Nat) (hb : Sees w (.slice ba b.length bc) b) (hbf : ∀ a, ba = some a → a.block ∉ F) (hb1 : 1 ≤ b.length) (hp : p + b.length ≤ 4194304) (hq : M.rise (nmA (mWrite A t p b).2.1)) : Calls Tryz.prog 116 #[.pointer (some ⟨D, 0, none⟩), .string t, .int .i64 p, .slice ba b.length bc] w fun e w' => e = .returned (.int .i64 (mWrite A t p b).1) ∧ DzM w w' D (n + 1) (mWrite A t p b).2.1 F := by
  obtain ⟨mb, dv, L, s, hD, hs, hr, rfl, rfl⟩ := h
  exact (write_ex hD (by omega) (first0 _) hr t ht p ba bc b hb hbf hb1 hp).mono (fun e w' q => dz_op hs hq q)

set_option maxRecDepth 100000 in
set_option maxHeartbeats 400000 in
theorem there_any {w : World} {P D n : Nat} {A : List AF} {F : List Nat} (h : Dz w D n A F) (hS : Ss w P D) (t : ByteArray) (ht : M.nam t = true) : Calls Tryz.prog 58 #[.pointer (some ⟨P, 0, none⟩), .string t] w fun e w' => e = .returned (.bool (M.has (nmA A) t)) ∧ Below w.heap.size w w' := by
  obtain ⟨c0, _, _⟩ := hS.cells
  have HD := Hid.mk' (dsize_any h t ht)
  have HS := Hid.mk' hS
  clear h hS
  go_enter Tryz.func58, Tryz.ntmps58
  go_wp2_with fail
  refine HD.out.mono ?_
  rintro e w1 ⟨rfl, hb1⟩
  have HB := Hid.mk' hb1
  have HF := Hid.mk' (found_any (HS.out.on hb1) (M.has (nmA A) t) (errA A t) rfl)
  clear hb1
  go_wp2_with fail
  refine HF.out.mono ?_
  rintro e w2 ⟨rfl, hw⟩
  obtain rfl := hw.symm
  clear hw
  go_wp2
  go_ret
  exact ⟨rfl, HB.out⟩

set_option maxRecDepth 100000 in
set_option maxHeartbeats 400000 in
theorem ssize_any {w : World} {P D n : Nat} {A : List AF} {F : List Nat} (h : Dz w D n A F) (hS : Ss w P D) (t : ByteArray) (ht : M.nam t = true) : Calls Tryz.prog 69 #[.pointer (some ⟨P, 0, none⟩), .string t] w fun e w' => e = .returned (.int .i64 ((seenA A t).length : Nat)) ∧ Below w.heap.size w w' := by
  obtain ⟨c0, _, _⟩ := hS.cells
  have HD := Hid.mk' (dsize_any h t ht)
  have HS := Hid.mk' hS
  clear h hS
  go_enter Tryz.func69, Tryz.ntmps69
  go_wp2_with fail
  refine HD.out.mono ?_
  rintro e w1 ⟨rfl, hb1⟩
  have HB := Hid.mk' hb1
  have HF := Hid.mk' (found_any (HS.out.on hb1) (M.has (nmA A) t) (errA A t) rfl)
  clear hb1
  go_wp2_with fail
  refine HF.out.mono ?_
  rintro e w2 ⟨rfl, hw⟩
  obtain rfl := hw.symm
  clear hw
  go_wp2
  go_ret
  exact ⟨rfl, HB.out⟩

set_option maxRecDepth 100000 in
set_option maxHeartbeats 400000 in
theorem sread_any {w : World} {P D n : Nat} {A : List AF} {F : List Nat} (h : Dz w D n A F) (hS : Ss w P D) (t : ByteArray) (ht : M.nam t = true) (p m : Nat) (hp : p ≤ 4194304) (hm : m ≤ 4194304) (l : List Nat) (hl : ((seenA A t).drop p).take m = l) :
    Calls Tryz.prog 60 #[.pointer (some ⟨P, 0, none⟩), .string t, .int .i64 p, .int .i64 m] w fun e w' => ∃ a c, e = .returned (.slice a l.length c) ∧ Rw w' (.slice a l.length c) l ∧ (∀ k, (Value.slice a l.length c).ownBlock = some k → w.heap.size ≤ k) ∧ Below w.heap.size w w' := by
  obtain ⟨c0, _, _⟩ := hS.cells
  have HD := Hid.mk' (dread_any h t ht p m hp hm)
  rw [hl] at HD
  have HS := Hid.mk' hS
  clear h hS hl
  go_enter Tryz.func60, Tryz.ntmps60
  go_wp2_with fail
  refine HD.out.mono ?_
  rintro e w1 ⟨a, c, rfl, hR1, hf1, hb1⟩
  have HR := Hid.mk' hR1
  have HF1 := Hid.mk' hf1
  have HB := Hid.mk' hb1
  have HF := Hid.mk' (found_any (HS.out.on hb1) (M.has (nmA A) t) (errA A t) rfl)
  clear hb1 hR1 hf1
  go_wp2_with fail
  refine HF.out.mono ?_
  rintro e w2 ⟨rfl, hw⟩
  obtain rfl := hw.symm
  clear hw
  go_wp2
  go_ret
  exact ⟨a, c, rfl, HR.out, HF1.out, HB.out⟩

set_option maxRecDepth 100000 in
set_option maxHeartbeats 400000 in
theorem swrite_any {w : World} {P D n : Nat} {A : List AF} {F : List Nat} (h : Dz w D n A F) (hS : Ss w P D) (hP : P ∉ F) (hn : n ≤ 1000000) (t : ByteArray) (ht : M.nam t = true) (p : Nat) (ba : Option Addr) (bc : Nat) (b : List Nat) (nb : Nat) (hnb : b.length = nb) (hb : Sees w (.slice ba nb bc) b) (hbf : ∀ a, ba = some a → a.block ∉ F) (hb1 : 1 ≤ nb) (hp : p + nb ≤ 4194304) {A' : List AF} (hw : (mWrite A t p b).1 = 0 ∧ (mWrite A t p b).2.1 = A') (hq : M.rise (nmA A')) :
    Calls Tryz.prog 98 #[.pointer (some ⟨P, 0, none⟩), .string t, .int .i64 p, .slice ba nb bc] w fun e w' => e = .returned (.tuple #[]) ∧ DzM w w' D (n + 1) A' F := by
  obtain ⟨c0, c1, _⟩ := hS.cells
  subst hnb
  have HD := Hid.mk' (dwrite_any h hn t ht p ba bc b hb hbf hb1 hp (by rw [hw.2]; exact hq))
  rw [hw.1, hw.2] at HD
  have HS := Hid.mk' hS
  clear h hS hw hq hb hbf
  generalize b.length = nb at *
  go_enter Tryz.func98, Tryz.ntmps98
  go_wp2_with fail
  refine HD.out.mono ?_
  rintro e w1 ⟨rfl, hM1⟩
  have HM := Hid.mk' hM1
  have HK := Hid.mk' (keep_any (HS.out.fr (by obtain ⟨_, _, hF, _⟩ := hM1; exact hF) hP))
  clear hM1 HD
  go_wp2_with fail
  refine HK.out.mono ?_
  rintro e w2 ⟨rfl, hb2⟩
  have HM2 := Hid.mk' (HM.out.below hb2)
  clear hb2
  go_wp2
  go_end0
  exact ⟨rfl, HM2.out⟩

set_option maxRecDepth 100000 in
set_option maxHeartbeats 400000 in
theorem ssync_any {w : World} {P D n : Nat} {A : List AF} {F : List Nat} (h : Dz w D n A F) (hS : Ss w P D) (hP : P ∉ F) (hn : n ≤ 1000000) (t : ByteArray) (ht : M.nam t = true) (hh : M.has (nmA A) t = true) {A' : List AF} (hw : (mSync A t).2.1 = A') (hq : M.rise (nmA A')) :
    Calls Tryz.prog 63 #[.pointer (some ⟨P, 0, none⟩), .string t] w fun e w' => e = .returned (.tuple #[]) ∧ DzM w w' D (n + 1) A' F := by
  have h0 : (mSync A t).1 = 0 := by unfold mSync; rw [if_pos hh]
  have HT := Hid.mk' (there_any h hS t ht)
  rw [hh] at HT
  have HZ := Hid.mk' h
  have HS := Hid.mk' hS
  have HW := Hid.mk' hw
  clear h hS hw hh
  go_enter Tryz.func63, Tryz.ntmps63
  go_wp2_with fail
  refine HT.out.mono ?_
  rintro e w1 ⟨rfl, hb1⟩
  obtain ⟨c0, _, _⟩ := (HS.out.on hb1).cells
  have HB := Hid.mk' hb1
  have HD := Hid.mk' (dsync_any (HZ.out.on hb1) hn t ht (by rw [HW.out]; exact hq))
  rw [h0, HW.out] at HD
  clear hb1 HT h0
  go_wp2_with fail
  refine HD.out.mono ?_
  rintro e w2 ⟨rfl, hM2⟩
  have HM := Hid.mk' (hM2.since HB.out)
  have HK := Hid.mk' (keep_any ((HS.out.on HB.out).fr (by obtain ⟨_, _, hF, _⟩ := hM2; exact hF) hP))
  clear hM2 HD
  go_wp2_with fail
  refine HK.out.mono ?_
  rintro e w3 ⟨rfl, hb3⟩
  have HM2 := Hid.mk' (HM.out.below hb3)
  clear hb3
  go_wp2
  go_end0
  exact ⟨rfl, HM2.out⟩

set_option maxRecDepth 100000 in
set_option maxHeartbeats 400000 in
theorem sremove_any {w : World} {P D n : Nat} {A : List AF} {F : List Nat} (h : Dz w D n A F) (hS : Ss w P D) (hP : P ∉ F) (hn : n ≤ 1000000) (t : ByteArray) (ht : M.nam t = true) (hh : M.has (nmA A) t = true) {A' : List AF} (hw : (mDel A t).2.1 = A') (hq : M.rise (nmA A')) :
    Calls Tryz.prog 64 #[.pointer (some ⟨P, 0, none⟩), .string t] w fun e w' => e = .returned (.tuple #[]) ∧ DzM w w' D (n + 1) A' F := by
  have h0 : (mDel A t).1 = 0 := by unfold mDel; rw [if_pos hh]
  obtain ⟨c0, c1, _⟩ := hS.cells
  have HD := Hid.mk' (ddelete_any h hn t ht (by rw [hw]; exact hq))
  rw [h0, hw] at HD
  have HS := Hid.mk' hS
  clear h hS hw hh h0
  go_enter Tryz.func64, Tryz.ntmps64
  go_wp2_with fail
  refine HD.out.mono ?_
  rintro e w1 ⟨rfl, hM1⟩
  have HM := Hid.mk' hM1
  have HK := Hid.mk' (keep_any (HS.out.fr (by obtain ⟨_, _, hF, _⟩ := hM1; exact hF) hP))
  clear hM1 HD
  go_wp2_with fail
  refine HK.out.mono ?_
  rintro e w2 ⟨rfl, hb2⟩
  have HM2 := Hid.mk' (HM.out.below hb2)
  clear hb2
  go_wp2
  go_end0
  exact ⟨rfl, HM2.out⟩
end Go.Proofs.YtjimhikfmccicaaGreat
namespace Go.Proofs.YtjimhikfmccicaaGreat.M8

theorem eq_of_getD (la lb : List Nat) (h : la.length = lb.length) (hk : ∀ j, j < lb.length → la.getD j 0 = lb.getD j 0) : la = lb := by
  apply List.ext_getElem h
  intro i h1 h2
  have := hk i h2
  simpa [List.getD_eq_getElem?_getD, h1, h2] using this

/-- The number of the k bytes from place i on, noughts where there is none, the highest first. -/
def wv (l : List Nat) (i : Nat) : Nat → Nat
  | 0 => 0
  | k + 1 => wv l i k * 256 + l.getD (i + k) 0
/-- The word from place i on. -/
def wd (l : List Nat) (i : Nat) : Nat := wv l i 4

theorem getD_lt {l : List Nat} (hl : ∀ x ∈ l, x < 256) (i : Nat) : l.getD i 0 < 256 := by
  by_cases h : i < l.length
  · rw [show l.getD i 0 = l[i] by simp [List.getD_eq_getElem?_getD, h]]
    exact hl _ (List.getElem_mem h)
  · rw [List.getD_eq_getElem?_getD, List.getElem?_eq_none (by omega)]
    decide

theorem wv_lt {l : List Nat} (hl : ∀ x ∈ l, x < 256) (i : Nat) : ∀ k, wv l i k < 256 ^ k
  | 0 => by simp [wv]
  | k + 1 => by
    have h := wv_lt hl i k
    have h2 := getD_lt hl (i + k)
    rw [wv, Nat.pow_succ]
    omega
theorem wv_small {l : List Nat} (hl : ∀ x ∈ l, x < 256) (i : Nat) {k : Nat} (hk : k ≤ 3) : wv l i k < 16777216 := by
  have h1 := wv_lt hl i k
  have h2 : 256 ^ k ≤ 256 ^ 3 := Nat.pow_le_pow_right (by omega) hk
  have h3 : (256 : Nat) ^ 3 = 16777216 := rfl
  omega
theorem wv_congr {l m : List Nat} {i j : Nat} : ∀ k, (∀ d, d < k → l.getD (i + d) 0 = m.getD (j + d) 0) → wv l i k = wv m j k
  | 0, _ => rfl
  | k + 1, h => by
    rw [wv, wv, wv_congr k (fun d hd => h d (by omega)), h k (by omega)]
theorem wd_congr {l m : List Nat} {i j : Nat} (h : ∀ d, d < 4 → l.getD (i + d) 0 = m.getD (j + d) 0) : wd l i = wd m j := wv_congr 4 h

/-- A step: two words. -/
def step (l : List Nat) (i : Nat) (s : Nat × Nat) : Nat × Nat :=
  ((s.1 + wd l i + s.2) % 4294967296, (s.2 + wd l (i + 4) + (s.1 + wd l i + s.2) % 4294967296) % 4294967296)
/-- The first k steps. -/
def run (l : List Nat) (s : Nat × Nat) : Nat → Nat × Nat
  | 0 => s
  | k + 1 => step l (8 * k) (run l s k)
/-- How many steps bytes ask for. -/
def steps (l : List Nat) : Nat := (l.length + 7) / 8
/-- The sum. -/
def sum (a b : Nat) (l : List Nat) : Nat × Nat := run l (a, b) (steps l)

theorem getD_drop (l : List Nat) (k d : Nat) : (l.drop k).getD d 0 = l.getD (k + d) 0 := by
  simp [List.getD_eq_getElem?_getD, List.getElem?_drop]
theorem getD_take (l : List Nat) {k d : Nat} (h : d < k) : (l.take k).getD d 0 = l.getD d 0 := by
  simp [List.getD_eq_getElem?_getD, h]
theorem getD_past (l : List Nat) {d : Nat} (h : l.length ≤ d) : l.getD d 0 = 0 := by
  rw [List.getD_eq_getElem?_getD, List.getElem?_eq_none h]; rfl

theorem run_lt (l : List Nat) {s : Nat × Nat} (h1 : s.1 < 4294967296) (h2 : s.2 < 4294967296) : ∀ k, (run l s k).1 < 4294967296 ∧ (run l s k).2 < 4294967296
  | 0 => ⟨h1, h2⟩
  | k + 1 => by
    rw [run]
    exact ⟨Nat.mod_lt _ (by omega), Nat.mod_lt _ (by omega)⟩
theorem sum_lt {a b : Nat} (l : List Nat) (h1 : a < 4294967296) (h2 : b < 4294967296) : (sum a b l).1 < 4294967296 ∧ (sum a b l).2 < 4294967296 := run_lt l (s := (a, b)) h1 h2 _

/-- What is left behind k steps. -/
theorem steps_done {l : List Nat} {k : Nat} (h1 : k ≤ steps l) (h2 : l.length ≤ 8 * k) : k = steps l := by unfold steps at *; omega

theorem or_low (m x k : Nat) (h : x < 2 ^ k) : (m * 2 ^ k) ||| x = m * 2 ^ k + x := by
  rw [Nat.mul_comm, ← Nat.two_pow_add_eq_or_of_lt h]
end Go.Proofs.YtjimhikfmccicaaGreat.M8
