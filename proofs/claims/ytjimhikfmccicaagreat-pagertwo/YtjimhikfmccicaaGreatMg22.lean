/-
  The contracts of num and of wakes.
  The law package's page, Mode and Open; a new disk.
  The looks at a disk with whatever troubles, its power on: there, size, read, settle, fold and look without journal and log, Open, Begin.
  The pager's block with whatever error kept: end, refused.
  The store over any disk: cut, guard without pages, lay of one page.
  The store over any disk: extend, where the log is not folded.
-/
import Derived.Test.YtjimhikfmccicaaGreatMg10
import Derived.Lib.SlBytesConst
import Derived.Test.YtjimhikfmccicaaGreatMg17
import Derived.Test.YtjimhikfmccicaaGreatNw
import Derived.Test.YtjimhikfmccicaaGreatNe
import Derived.Test.YtjimhikfmccicaaGreatXb
import Derived.Test.YtjimhikfmccicaaGreatMg18
import Derived.Test.YtjimhikfmccicaaGreatMg20
namespace Go.Proofs.YtjimhikfmccicaaGreat
open Go.RowKit Go.Maps

theorem gs_nil (w : World) : Gs w (.slice none 0 0) [] := ⟨⟨none, 0, rfl, fun h => absurd h (by simp)⟩, by simp⟩
theorem ts_nil (w : World) : Ts w (.slice none 0 0) [] := ⟨⟨none, 0, rfl, fun h => absurd h (by simp)⟩, by simp⟩
end Go.Proofs.YtjimhikfmccicaaGreat
namespace Go.Proofs.YtjimhikfmccicaaGreat
open Go.RowKit Go.Maps Go.Sort Go.Shelf

/-- The law package's page of a byte. -/
def pgL (b : Int) : List Nat := (List.range 512).map fun i => ((b + ((i % 7 : Nat) : Int)) % 256).toNat
theorem pgL_length (b : Int) : (pgL b).length = 512 := by unfold pgL; simp
theorem pgL_at (b : Int) (k : Nat) (hk : k < 512) : (pgL b)[k]'(by rw [pgL_length]; exact hk) = ((b + ((k % 7 : Nat) : Int)) % 256).toNat := by
  unfold pgL
  simp
def pgK (b : Int) (k : Nat) : List Nat := (pgL b).take k ++ (nul 512).drop k
theorem pgK_length (b : Int) (k : Nat) (hk : k ≤ 512) : (pgK b k).length = 512 := by
  unfold pgK
  rw [List.length_append, List.length_take, pgL_length, List.length_drop, nul_length]
  omega
theorem pgK_set (b : Int) (k : Nat) (hk : k < 512) : (pgK b k).set k ((b + ((k % 7 : Nat) : Int)) % 256).toNat = pgK b (k + 1) := by
  unfold pgK
  have h1 : ((pgL b).take k).length = k := by rw [List.length_take, pgL_length]; omega
  rw [List.set_append_right _ _ (by omega), h1, Nat.sub_self, List.take_succ_eq_append_getElem (by rw [pgL_length]; exact hk), pgL_at b k hk, List.append_assoc]
  congr 1
  rw [List.drop_eq_getElem_cons (by rw [nul_length]; exact hk)]
  rfl

set_option maxRecDepth 100000 in
set_option maxHeartbeats 1000000 in
theorem page_any (b : Int) (w : World) : Calls Tryz.prog 24 #[.int .i64 b] w fun e w' => ∃ g, e = .returned (.slice (some ⟨g, 0, none⟩) 512 512) ∧ Rw w' (.slice (some ⟨g, 0, none⟩) 512 512) (pgL b) ∧ w.heap.size ≤ g ∧ Below w.heap.size w w' := by
  have hmk := make_512 w
  obtain ⟨w1, hw1⟩ : ∃ w1, w1 = w.alloc (.cells ((nul 512).map B8).toArray 5) := ⟨_, rfl⟩
  obtain ⟨g, hg⟩ : ∃ g, g = w.heap.size := ⟨_, rfl⟩
  have HB1 : Hid (Below w.heap.size w w1) := by rw [hw1]; exact (Below.refl _ _).alloc (Nat.le_refl _) _
  have HR1 : Hid (w1.heap[g]? = some (.cells ((pgK b 0).map B8).toArray 5 (0, 0))) := by
    rw [hw1, hg, show pgK b 0 = nul 512 from rfl]
    exact heap_alloc_new w _
  have hwg : w.heap.size ≤ g := by rw [hg]; exact Nat.le_refl _
  rw [← hw1, ← hg] at hmk
  clear hw1 hg
  go_enter Tryz.func24, Tryz.ntmps24
  go_wp2
  go_loopw [4] (fun i wr => ∃ k : Nat, k ≤ 512 ∧ i = .int .i64 k ∧ wr.heap[g]? = some (.cells ((pgK b k).map B8).toArray 5 (0, 0)) ∧ Below w.heap.size w wr) (fun i _ => 512 - (intOf i).toNat)
  case atStart => exact ⟨0, by omega, rfl, HR1.out, HB1.out⟩
  case round =>
    obtain ⟨k, hk, rfl, hr, hb⟩ := hrel
    have HR := Hid.mk' hr
    have HB := Hid.mk' hb
    by_cases hlt : k < 512
    · have c0 : wr.cell? ⟨g, k, none⟩ = some (B8 ((pgK b k).getD k 0)) := by
        rw [cell_of_row wr g k _ _ (0, 0) hr]
        have hl2 : k < (pgK b k).length := by rw [pgK_length b k hk]; exact hlt
        simp [List.getElem?_eq_getElem hl2, List.getD_eq_getElem?_getD]
      rw [show B8 ((pgK b k).getD k 0) = .int .u8 (((pgK b k).getD k 0 : Nat) : Int) from rfl] at c0
      generalize (pgK b k).getD k 0 = old at *
      have f0 : wr.frozen? ⟨g, k, none⟩ = false := by simp [World.frozen?, hr]
      have HS : Hid ((wr.setCell ⟨g, k, none⟩ (.int .u8 ((b + ((k % 7 : Nat) : Int)) % 256))).heap[g]? = some (.cells ((pgK b (k + 1)).map B8).toArray 5 (0, 0))) := by
        show _ = _
        have h1 := heap_setCell_same wr g k _ 5 (.int .u8 ((b + ((k % 7 : Nat) : Int)) % 256)) HR.out
        rw [h1, List.setIfInBounds_toArray, ← pgK_set b k hlt, List.map_set]
        have : B8 ((b + ((k % 7 : Nat) : Int)) % 256).toNat = .int .u8 ((b + ((k % 7 : Nat) : Int)) % 256) := by
          show Value.int .u8 _ = _
          congr 1
          omega
        rw [this]
      clear hr hb
      go_wp2
      have hx : wrap64 (b + (k : Int) % 7) % 256 = (b + ((k % 7 : Nat) : Int)) % 256 := by unfold wrap64; omega
      rw [hx]
      exact ⟨⟨k + 1, by omega, by go_num, HS.out, HB.out.setCell hwg _⟩, by simp [intOf]; omega⟩
    · obtain rfl : k = 512 := by omega
      clear hr hb
      go_wp2
      go_ret
      refine ⟨_, rfl, rw_row ?_ (pgL_length b) (by omega), hwg, HB.out⟩
      have := HR.out
      rw [show pgK b 512 = pgL b by unfold pgK; rw [List.take_of_length_le (by rw [pgL_length]; omega), List.drop_of_length_le (by rw [nul_length]; omega), List.append_nil]] at this
      exact this

theorem within_num (i : Int) (n : Nat) (h1 : 1 ≤ n) (h2 : n ≤ 9223372036854775807) : ∃ r : Nat, wrap64 ((IntKind.u64.wrap i).tmod n) = (r : Int) ∧ r < n := by
  have h0 : 0 ≤ IntKind.u64.wrap i := by
    simp only [IntKind.wrap, IntKind.bits, IntKind.signed]
    simp
    omega
  generalize IntKind.u64.wrap i = x at *
  rw [Int.tmod_eq_emod_of_nonneg h0]
  have h3 := Int.emod_nonneg x (b := (n : Int)) (by omega)
  have h4 := Int.emod_lt_of_pos x (b := (n : Int)) (by omega)
  generalize x % (n : Int) = y at *
  refine ⟨y.toNat, ?_, by omega⟩
  rw [Int.toNat_of_nonneg h3]
  unfold wrap64
  omega
/-- One number below n, whatever the world is. -/
theorem within_ex (i : Int) (n : Nat) (N : Int) (hN : N = (n : Int)) (h1 : 1 ≤ n) (h2 : n ≤ 9223372036854775807) :
    ∃ r : Nat, r < n ∧ ∀ w : World, Calls Tryz.prog 12 #[.int .i64 i, .int .i64 N] w fun e w' => e = .returned (.int .i64 r) ∧ w' = w := by
  subst hN
  obtain ⟨r, hr, hlt⟩ := within_num i n h1 h2
  refine ⟨r, hlt, fun w => ?_⟩
  have hz : ((n : Int) == 0) = false := by rw [beq_eq_false_iff_ne]; omega
  go_enter Tryz.func12, Tryz.ntmps12
  go_wp2
  go_ret
  refine ⟨?_, rfl⟩
  rw [← hr]
  rfl

theorem mode_ex (n : Int) : ∃ r : Nat, r < 2 ∧ ∀ w : World, Calls Tryz.prog 10 #[.int .i64 n] w fun e w' => e = .returned (.int .i64 (1 + (r : Int))) ∧ w' = w := by
  obtain ⟨r, hr, hW⟩ := within_ex n 2 2 rfl (by omega) (by omega)
  refine ⟨r, hr, fun w => ?_⟩
  have HW := Hid.mk' (hW w)
  clear hW
  go_enter Tryz.func10, Tryz.ntmps10
  go_wp2_with fail
  refine HW.out.mono ?_
  rintro e w1 ⟨rfl, hw⟩
  obtain rfl := hw.symm
  clear hw HW
  go_wp2
  go_ret
  exact ⟨ret_int (by omega), rfl⟩

theorem dnew_nil (w : World) : Calls Tryz.prog 8 #[.slice none 0 0, .slice none 0 0] w fun e w' => ∃ D F, e = .returned (.tuple #[.pointer (some ⟨D, 0, none⟩), .int .i64 0]) ∧ Dz w' D 0 [] F ∧ (∀ k ∈ F, w.heap.size ≤ k) ∧ Below w.heap.size w w' := by
  refine (new_any (.slice none 0 0) (.slice none 0 0) [] [] w (gs_nil w) (ts_nil w) rfl (by simp) (fun j hj => by simp at hj) (by simp) (fun w1 hb1 => ?_)).mono ?_
  · refine (files_any (.slice none 0 0) [] w1 (gs_nil w1)).mono ?_
    rintro e w' ⟨rfl, hb⟩
    exact ⟨rfl, hb⟩
  · rintro e w' ⟨D, mb, v, L, rfl, hD, hb, hf, hL⟩
    obtain rfl : L = [] := by simpa using hL
    exact ⟨D, _, rfl, ⟨mb, v, [], 0, hD, by omega, (by simp [M.rise, names]), rfl, rfl⟩, hf, hb⟩

set_option maxRecDepth 100000 in
set_option maxHeartbeats 1000000 in
theorem lopen_ok {w : World} {D n : Nat} {A : List AF} {F : List Nat} (h : Dz w D n A F) (hj : M.has (nmA A) jourN = false) (md : Int) (hm : md = 1 ∨ md = 2) :
    Calls Tryz.prog 11 #[.pointer (some ⟨D, 0, none⟩), .int .i64 md] w fun e w' => ∃ P lb, e = .returned (.pointer (some ⟨P, 0, none⟩)) ∧ Pg w' P D md lb 0 1 0 0 none 0 none none 0 0 0 ∧ Tb w' lb 105 zeroL ∧ P ≠ lb ∧ w.heap.size ≤ P ∧ w.heap.size ≤ lb ∧ Below w.heap.size w w' := by
  have HZ := Hid.mk' h
  have HJ := Hid.mk' hj
  clear h hj
  go_enter Tryz.func11, Tryz.ntmps11
  go_wp2_with fail
  refine (lnew_any w).mono ?_
  rintro e w1 ⟨rfl, hT1, hb1⟩
  have HT1 := Hid.mk' hT1
  have HB1 := Hid.mk' hb1
  have hlt : w.heap.size < w1.heap.size := hT1.lt
  have HO := Hid.mk' (open_ok (HZ.out.on hb1) HJ.out md 0 w.heap.size hm (by omega))
  obtain ⟨lb, hlb⟩ : ∃ lb, w.heap.size = lb := ⟨_, rfl⟩
  have HLb := Hid.mk' hlb
  rw [hlb] at HT1 HO hlt
  rw [hlb]
  clear hT1 hb1 hlb hm
  go_wp2_with fail
  refine HO.out.mono ?_
  rintro e w2 ⟨rfl, hP2, hb2⟩
  have HP2 := Hid.mk' hP2
  have HB2 := Hid.mk' hb2
  clear hP2 hb2 HO
  go_wp2_with fail
  refine (num_any 0 w2).mono ?_
  rintro e w3 ⟨rfl, hw⟩
  obtain rfl := hw.symm
  clear hw
  go_wp2
  go_ret
  have h1 := HB1.out.size
  have h3 := HLb.out
  exact ⟨_, lb, rfl, HP2.out, HT1.out.below HB2.out, by omega, by omega, by omega, HB1.out.trans (HB2.out.mono HB1.out.size)⟩
end Go.Proofs.YtjimhikfmccicaaGreat
namespace Go.Proofs.YtjimhikfmccicaaGreat
open Go.RowKit Go.Maps

/-- A disk whose power is on, whatever goes wrong with it: its files A, its blocks F. -/
def Dl (w : World) (D : Nat) (A : List AF) (F : List Nat) : Prop := ∃ f s, Dg f w D A s false F
theorem Dl.fr {w w' : World} {D : Nat} {A : List AF} {F : List Nat} (h : Dl w D A F) {fs : List Nat} (hF : Fr fs w w') (hn : ∀ k ∈ F, k ∉ fs) : Dl w' D A F := by
  obtain ⟨f, s, h⟩ := h
  exact ⟨f, s, h.fr hF hn⟩
theorem Dl.on {w w' : World} {D : Nat} {A : List AF} {F : List Nat} (h : Dl w D A F) (hb : Below w.heap.size w w') : Dl w' D A F := h.fr (Fr.of_below (fs := []) hb) (fun _ _ hk => by cases hk)
theorem Dl.len {w : World} {D : Nat} {A : List AF} {F : List Nat} (h : Dl w D A F) (t : ByteArray) : (seenA A t).length ≤ 4194304 := by
  obtain ⟨f, s, h⟩ := h
  exact h.len t
theorem dsize_l {w : World} {D : Nat} {A : List AF} {F : List Nat} (h : Dl w D A F) (t : ByteArray) (ht : M.nam t = true) : Calls Tryz.prog 91 #[.pointer (some ⟨D, 0, none⟩), .string t] w fun e w' => e = .returned (.tuple #[.int .i64 ((seenA A t).length : Nat), .int .i64 (errA A t)]) ∧ Below w.heap.size w w' := by
  obtain ⟨f, s, mb, dv, L, hD, hr, rfl, rfl⟩ := h
  unfold seenA errA
  rw [nmA_fabs]
  by_cases hh : M.has (names L) t = true
  · rw [if_pos hh, if_pos hh, fabs_getD]
    exact size_there hD hr t ht hh
  · rw [if_neg hh, if_neg hh]
    exact size_none hD hr t ht (by simpa using hh)

theorem dread_l {w : World} {D : Nat} {A : List AF} {F : List Nat} (h : Dl w D A F) (t : ByteArray) (ht : M.nam t = true) (p m : Nat) (hp : p ≤ 4194304) (hm : m ≤ 4194304) : Calls Tryz.prog 97 #[.pointer (some ⟨D, 0, none⟩), .string t, .int .i64 p, .int .i64 m] w fun e w' => ∃ a c, e = .returned (.tuple #[.slice a (((seenA A t).drop p).take m).length c, .int .i64 (errA A t)]) ∧ Rw w' (.slice a (((seenA A t).drop p).take m).length c) (((seenA A t).drop p).take m) ∧ (∀ k, (Value.slice a (((seenA A t).drop p).take m).length c).ownBlock = some k → w.heap.size ≤ k) ∧ Below w.heap.size w w' := by
  obtain ⟨f, s, mb, dv, L, hD, hr, rfl, rfl⟩ := h
  unfold seenA errA
  rw [nmA_fabs]
  by_cases hh : M.has (names L) t = true
  · rw [if_pos hh, if_pos hh, fabs_getD]
    refine (read_any hD hr t ht hh p m hp hm).mono ?_
    rintro e w1 ⟨v', rfl, hR, hb1, hf1⟩
    obtain ⟨a, c, rfl, _, _⟩ := hR.slice
    exact ⟨a, c, rfl, hR, hf1, hb1⟩
  · rw [if_neg hh, if_neg hh]
    refine (read_none hD hr t ht (by simpa using hh) p m ⟨by omega, by omega⟩ ⟨by omega, by omega⟩).mono ?_
    rintro e w1 ⟨rfl, hb⟩
    exact ⟨none, 0, by simp, by simpa using Rw.nil w1, fun k hk => by simp [Value.ownBlock] at hk, hb⟩

set_option maxRecDepth 100000 in
set_option maxHeartbeats 400000 in
theorem there_l {w : World} {P D : Nat} {A : List AF} {F : List Nat} (h : Dl w D A F) (hS : Ss w P D) (t : ByteArray) (ht : M.nam t = true) : Calls Tryz.prog 58 #[.pointer (some ⟨P, 0, none⟩), .string t] w fun e w' => e = .returned (.bool (M.has (nmA A) t)) ∧ Below w.heap.size w w' := by
  obtain ⟨c0, _, _⟩ := hS.cells
  have HD := Hid.mk' (dsize_l h t ht)
  have HS := Hid.mk' hS
  clear h hS
  go_enter Tryz.func58, Tryz.ntmps58
  go_wp2_with fail
  refine HD.out.mono ?_
  rintro e w1 ⟨rfl, hb1⟩
  have HB := Hid.mk' hb1
  have HF := Hid.mk' (found_any (HS.out.on hb1) (M.has (nmA A) t) (errA A t) rfl)
  clear hb1
  go_wp2_with fail
  refine HF.out.mono ?_
  rintro e w2 ⟨rfl, hw⟩
  obtain rfl := hw.symm
  clear hw
  go_wp2
  go_ret
  exact ⟨rfl, HB.out⟩

set_option maxRecDepth 100000 in
set_option maxHeartbeats 400000 in
theorem ssize_l {w : World} {P D : Nat} {A : List AF} {F : List Nat} (h : Dl w D A F) (hS : Ss w P D) (t : ByteArray) (ht : M.nam t = true) : Calls Tryz.prog 69 #[.pointer (some ⟨P, 0, none⟩), .string t] w fun e w' => e = .returned (.int .i64 ((seenA A t).length : Nat)) ∧ Below w.heap.size w w' := by
  obtain ⟨c0, _, _⟩ := hS.cells
  have HD := Hid.mk' (dsize_l h t ht)
  have HS := Hid.mk' hS
  clear h hS
  go_enter Tryz.func69, Tryz.ntmps69
  go_wp2_with fail
  refine HD.out.mono ?_
  rintro e w1 ⟨rfl, hb1⟩
  have HB := Hid.mk' hb1
  have HF := Hid.mk' (found_any (HS.out.on hb1) (M.has (nmA A) t) (errA A t) rfl)
  clear hb1
  go_wp2_with fail
  refine HF.out.mono ?_
  rintro e w2 ⟨rfl, hw⟩
  obtain rfl := hw.symm
  clear hw
  go_wp2
  go_ret
  exact ⟨rfl, HB.out⟩

set_option maxRecDepth 100000 in
set_option maxHeartbeats 400000 in
theorem sread_l {w : World} {P D : Nat} {A : List AF} {F : List Nat} (h : Dl w D A F) (hS : Ss w P D) (t : ByteArray) (ht : M.nam t = true) (p m : Nat) (hp : p ≤ 4194304) (hm : m ≤ 4194304) (l : List Nat) (hl : ((seenA A t).drop p).take m = l) :
    Calls Tryz.prog 60 #[.pointer (some ⟨P, 0, none⟩), .string t, .int .i64 p, .int .i64 m] w fun e w' => ∃ a c, e = .returned (.slice a l.length c) ∧ Rw w' (.slice a l.length c) l ∧ (∀ k, (Value.slice a l.length c).ownBlock = some k → w.heap.size ≤ k) ∧ Below w.heap.size w w' := by
  obtain ⟨c0, _, _⟩ := hS.cells
  have HD := Hid.mk' (dread_l h t ht p m hp hm)
  rw [hl] at HD
  have HS := Hid.mk' hS
  clear h hS hl
  go_enter Tryz.func60, Tryz.ntmps60
  go_wp2_with fail
  refine HD.out.mono ?_
  rintro e w1 ⟨a, c, rfl, hR1, hf1, hb1⟩
  have HR := Hid.mk' hR1
  have HF1 := Hid.mk' hf1
  have HB := Hid.mk' hb1
  have HF := Hid.mk' (found_any (HS.out.on hb1) (M.has (nmA A) t) (errA A t) rfl)
  clear hb1 hR1 hf1
  go_wp2_with fail
  refine HF.out.mono ?_
  rintro e w2 ⟨rfl, hw⟩
  obtain rfl := hw.symm
  clear hw
  go_wp2
  go_ret
  exact ⟨a, c, rfl, HR.out, HF1.out, HB.out⟩

set_option maxRecDepth 100000 in
set_option maxHeartbeats 400000 in
theorem settle_l {w : World} {P D : Nat} {A : List AF} {F : List Nat} (h : Dl w D A F) (hS : Ss w P D) (hj : M.has (nmA A) jourN = false) : Calls Tryz.prog 39 #[.pointer (some ⟨P, 0, none⟩)] w fun e w' => e = .returned (.tuple #[]) ∧ Below w.heap.size w w' := by
  have HT := Hid.mk' (there_l h hS jourN nam_jour)
  rw [hj] at HT
  clear h hS hj
  go_enter Tryz.func39, Tryz.ntmps39
  go_wp2_with fail
  refine HT.out.mono ?_
  rintro e w1 ⟨rfl, hb1⟩
  have HB := Hid.mk' hb1
  clear hb1
  go_wp2
  refine bodyPost_ret (results_none rfl _ _ _) rfl ?_
  exact ⟨rfl, HB.out⟩


end Go.Proofs.YtjimhikfmccicaaGreat
namespace Go.Proofs.YtjimhikfmccicaaGreat
open Go.RowKit Go.Maps Go.Sort Go.Shelf

theorem Sd.kp_s (x : Sd) (e : Int) : (x.kp e).s = x.s := by unfold Sd.kp; split <;> rfl
theorem Sd.dk_s (x : Sd) : x.dk.s = x.s := by unfold Sd.dk; split <;> simp [Sd.kp_s]
theorem Sd.st_s (f : Int → Int) (x : Sd) (q : S3) : (x.st f q).s = x.s + 1 := by unfold Sd.st; rw [Sd.kp_s]
theorem Sd.wr_s (f : Int → Int) (x : Sd) (t : ByteArray) (p : Nat) (b : List Nat) : (x.wr f t p b).s ≤ x.s + 1 := by unfold Sd.wr; split <;> simp [Sd.st_s]
theorem Sd.sy_s (f : Int → Int) (x : Sd) (t : ByteArray) : (x.sy f t).s ≤ x.s + 1 := by unfold Sd.sy; split <;> simp [Sd.st_s, Sd.dk_s]
theorem Sd.ct_s (f : Int → Int) (x : Sd) (t : ByteArray) (n : Nat) : (x.ct f t n).s ≤ x.s + 1 := by unfold Sd.ct; split <;> simp [Sd.st_s, Sd.dk_s]

set_option maxRecDepth 100000 in
set_option maxHeartbeats 400000 in
theorem scut_g {f : Int → Int} {w : World} {P D : Nat} {R : List Value} {x : Sd} {F : List Nat} (h : Sg f w P D R x F) (hf : Kin f) (hs : x.s ≤ 1000000) (t : ByteArray) (ht : M.nam t = true) (n : Nat) (hn : n ≤ 4194304) :
    Calls Tryz.prog 62 #[.pointer (some ⟨P, 0, none⟩), .string t, .int .i64 n] w fun e w' => e = .returned (.tuple #[]) ∧ SgM f w w' P D R (x.ct f t n) F := by
  have HT := Hid.mk' (ssize_g h t ht)
  by_cases hh : n < x.sz t
  · have ho : x.off = false := by
      unfold Sd.sz at hh
      by_cases ho : x.off = true
      · rw [if_pos ho] at hh; omega
      · simpa using ho
    have hdk : x.dk = x := by unfold Sd.dk; rw [ho]; rfl
    rw [hdk] at HT
    have hlt : (n : Int) < (x.sz t : Int) := by omega
    generalize hz : x.sz t = z at HT hlt hh
    by_cases h0 : x.er = 0
    · have HW : Hid (x.ct f t n = x.st f (mTrunc x.A t n)) := by show _ = _; unfold Sd.ct; rw [if_pos ⟨by omega, h0⟩]
      clear h hh ho hdk hz
      go_enter Tryz.func62, Tryz.ntmps62
      go_wp2_with fail
      refine HT.out.mono ?_
      rintro e w1 ⟨rfl, hM1⟩
      have HD : Hid (Calls Tryz.prog 100 #[.pointer (some ⟨D, 0, none⟩), .string t, .int .i64 n] w1 fun e w' => e = .returned (.int .i64 (mSt x.A x.off (f ((x.s : Int) + 1)) (mTrunc x.A t n)).1) ∧ Calls Tryz.prog 99 #[.pointer (some ⟨P, 0, none⟩), .int .i64 (mSt x.A x.off (f ((x.s : Int) + 1)) (mTrunc x.A t n)).1] w' fun e' w2 => e' = .returned (.tuple #[]) ∧ SgM f w w2 P D R (x.st f (mTrunc x.A t n)) F) := by
        obtain ⟨F1, hs1, hF1, hn1⟩ := hM1
        refine (dtrunc_g hs1 hf hs t ht n hn).mono ?_
        rintro e w' ⟨rfl, hM⟩
        exact ⟨rfl, (keep_st hs1 _ hM).mono (fun e w2 q => ⟨q.1, sg_step hF1 hn1 q.2⟩)⟩
      have c0 : w1.cell? ⟨P, 0, none⟩ = some (.pointer (some ⟨D, 0, none⟩)) := by
        obtain ⟨F1, hs1, _⟩ := hM1
        exact hs1.1.cells.1
      have c1 : w1.cell? ⟨P, 1, none⟩ = some (.int .i64 0) := by
        obtain ⟨F1, hs1, _⟩ := hM1
        rw [← h0]
        exact hs1.1.cells.2.1
      clear hM1 HT h0
      generalize (mSt x.A x.off (f ((x.s : Int) + 1)) (mTrunc x.A t n)).1 = r at *
      go_wp2_with fail
      refine HD.out.mono ?_
      rintro e w2 ⟨rfl, hK⟩
      have HK := Hid.mk' hK
      clear hK HD
      go_wp2_with fail
      refine HK.out.mono ?_
      rintro e w3 ⟨rfl, hM3⟩
      rw [← HW.out] at hM3
      have HM3 := Hid.mk' hM3
      clear hM3
      go_wp2
      go_end0
      exact ⟨rfl, HM3.out⟩
    · have HW : Hid (x.ct f t n = x) := by show _ = _; unfold Sd.ct; rw [if_neg (fun q => h0 q.2), hdk]
      have hb0 := Sd.er0 h0
      clear h hh ho hdk hz
      go_enter Tryz.func62, Tryz.ntmps62
      go_wp2_with fail
      refine HT.out.mono ?_
      rintro e w1 ⟨rfl, hM1⟩
      have c1 : w1.cell? ⟨P, 1, none⟩ = some (.int .i64 x.er) := by
        obtain ⟨F1, hs1, _⟩ := hM1
        exact hs1.1.cells.2.1
      rw [← HW.out] at hM1
      have HM1 := Hid.mk' hM1
      generalize x.er = er at c1 hb0
      clear hM1 HT h0
      go_wp2
      go_end0
      exact ⟨rfl, HM1.out⟩
  · have HW : Hid (x.ct f t n = x.dk) := by show _ = _; unfold Sd.ct; rw [if_neg (fun q => hh q.1)]
    have hlt : ¬ (n : Int) < (x.sz t : Int) := by omega
    generalize hz : x.sz t = z at HT hlt hh
    clear h hh hz
    go_enter Tryz.func62, Tryz.ntmps62
    go_wp2_with fail
    refine HT.out.mono ?_
    rintro e w1 ⟨rfl, hM1⟩
    rw [← HW.out] at hM1
    have HM1 := Hid.mk' hM1
    clear hM1 HT
    go_wp2
    go_end0
    exact ⟨rfl, HM1.out⟩

set_option maxRecDepth 100000 in
set_option maxHeartbeats 1000000 in
theorem guard_g0 {f : Int → Int} {w : World} {P D : Nat} {R : List Value} {x : Sd} {F : List Nat} (h : Sg f w P D R x F) (hf : Kin f) (hs : x.s ≤ 999999) (kd cn pl : Nat) (h1 : kd ≤ 1000000000) (h2 : cn ≤ 1000000000) (h3 : pl ≤ 1000000000) :
    Calls Tryz.prog 104 #[.pointer (some ⟨P, 0, none⟩), .agg #[.int .i64 (kd : Int), .int .i64 (cn : Int), .int .i64 (pl : Int), .slice none 0 0]] w fun e w' => e = .returned (.tuple #[]) ∧ SgM f w w' P D R ((x.wr f jourN 0 (encN kd cn pl)).sy f jourN) F := by
  have HS := Hid.mk' h
  have HF := Hid.mk' h.2.1.lt
  clear h
  go_enter Tryz.func104, Tryz.ntmps104
  go_wp2_with fail
  refine (encode_none kd cn pl h1 h2 h3 _).mono ?_
  rintro e w1 ⟨g, rfl, hr, hg, hb⟩
  have HB1 : Hid (Below w.heap.size w w1) := ((Below.refl _ _).alloc (Nat.le_refl _) _).trans (hb.mono (by simp))
  have hg' : w.heap.size ≤ g := Nat.le_trans (by simp) hg
  have HWr := Hid.mk' (swrite_g (HS.out.on HB1.out) hf (by omega) jourN nam_jour 0 (some ⟨g, 0, none⟩) 64 (encN kd cn pl) 64 (encN_length _ _ _) hr.sees (fun a ha hk => by
    obtain rfl := by simpa using ha
    have := HF.out _ hk
    simp at this
    omega) (by omega) (by omega))
  clear hb hr hg
  go_wp2_with fail
  refine HWr.out.mono ?_
  rintro e w2 ⟨rfl, hM⟩
  have HYr := Hid.mk' ((hM.since HB1.out).call (fun F1 hs1 _ _ => ssync_g hs1 hf (by have := Sd.wr_s f x jourN 0 (encN kd cn pl); omega) jourN nam_jour))
  clear hM HWr
  go_wp2_with fail
  refine HYr.out.mono ?_
  rintro e w3 ⟨rfl, hM3⟩
  have HM3 := Hid.mk' hM3
  clear hM3 HYr
  go_wp2
  go_end0
  exact ⟨rfl, HM3.out⟩


theorem Lfs.fr {w w' : World} {base : Nat} {v : Value} {X : List LF} (h : Lfs w base v X) {fs : List Nat} (hF : Fr fs w w') (hv : ∀ k, v.ownBlock = some k → k ∉ fs) (hp : ∀ x ∈ X, ∀ y c, x.2.1 = .slice (some y) 512 c → y.block ∉ fs) : Lfs w' base v X :=
  ⟨hF.owns h.1 hv, fun x hx => ⟨(h.2 x hx).1, hF.sees (h.2 x hx).2.1 (fun y n c e => by
    obtain ⟨a, c', e'⟩ := (h.2 x hx).2.2
    rw [e'] at e
    obtain ⟨rfl, rfl, rfl⟩ : a = some y ∧ 512 = n ∧ c' = c := by simpa using e
    exact hp x hx y c' e'), (h.2 x hx).2.2⟩⟩
/-- Behind guard without pages. -/
def Sd.gd (f : Int → Int) (x : Sd) (kd cn pl : Nat) : Sd := (x.wr f jourN 0 (encN kd cn pl)).sy f jourN
theorem Sd.gd_s (f : Int → Int) (x : Sd) (kd cn pl : Nat) : (x.gd f kd cn pl).s ≤ x.s + 2 := by
  unfold Sd.gd
  have h1 := Sd.wr_s f x jourN 0 (encN kd cn pl)
  have h2 := Sd.sy_s f (x.wr f jourN 0 (encN kd cn pl)) jourN
  omega
/-- Behind extend. -/
def Sd.ex (f : Int → Int) (x : Sd) (en cn : Nat) (X : List (Nat × List Nat)) : Sd := ((((x.gd f 2 0 en).ct f logN en).wr f logN en (encB 3 cn en X)).sy f logN).rm f jourN

set_option maxRecDepth 100000 in
set_option maxHeartbeats 2000000 in
theorem extend_g {f : Int → Int} {w : World} {P D : Nat} {R : List Value} {x : Sd} {F : List Nat} (h : Sg f w P D R x F) (hf : Kin f) (hs : x.s ≤ 999000) (en cn : Nat) (hcn : cn ≤ 4096) {base : Nat} {v : Value} {X : List LF} (hX : Lfs w base v X) (hXn : ∀ x ∈ X, x.1 ≤ 1000000000) (hXw : wholeB (X.map pr)) (hsz : en + (64 + X.length * 520) ≤ 65536) (hv : ∀ k, v.ownBlock = some k → k ∉ P :: F) (hp : ∀ x ∈ X, ∀ y c, x.2.1 = .slice (some y) 512 c → y.block ∉ P :: F) :
    Calls Tryz.prog 75 #[.pointer (some ⟨P, 0, none⟩), .int .i64 (en : Int), .int .i64 (cn : Int), v] w fun e w' => e = .returned (.tuple #[]) ∧ SgM f w w' P D R (x.ex f en cn (X.map pr)) F := by
  obtain ⟨va, vc, g0, rfl, hc, hcm, hrow⟩ := owns_leafs hX.1
  obtain ⟨C, hC⟩ : ∃ C, 64 + X.length * 520 = C := ⟨_, rfl⟩
  have HEl : Hid ((encB 3 cn en (X.map pr)).length = C) := by
    show _ = _
    rw [encB_length _ _ _ hXw, List.length_map, hC]
  have HX := Hid.mk' hX
  have HXn := Hid.mk' hXn
  have HXw := Hid.mk' hXw
  have HV := Hid.mk' hv
  have HPp := Hid.mk' hp
  have HS := Hid.mk' h
  have HC := Hid.mk' hC
  rw [hC] at hsz
  have HFl := Hid.mk' h.2.1.lt
  have hPl := h.1.lt
  obtain ⟨n, hn⟩ : ∃ n, X.length = n := ⟨_, rfl⟩
  have HN := Hid.mk' hn
  have hn5 : n ≤ 130 := by omega
  have HBs : Hid (∀ wx, Calls Tryz.prog 71 #[.agg #[.int .i64 3, .int .i64 (cn : Int), .int .i64 (en : Int), .slice va n vc]] wx fun e w' => e = .returned (.int .i64 (C : Int)) ∧ Below wx.heap.size wx w') := by
    show ∀ wx, _
    intro wx
    rw [← HC.out, hn]
    exact bsize_any _ _ _ _ _ _ (by omega) wx
  rw [hn]
  clear h hX hXn hXw hv hp hC hrow hc hcm hn
  obtain ⟨w1, hw1⟩ : ∃ w1, w1 = w.alloc (.cells #[.int .i64 3, .int .i64 (cn : Int), .int .i64 (en : Int), .slice va n vc] 120) := ⟨_, rfl⟩
  obtain ⟨bb, hbb⟩ : ∃ bb, bb = w.heap.size := ⟨_, rfl⟩
  have hb1 : Below w.heap.size w w1 := by rw [hw1]; exact (Below.refl _ _).alloc (Nat.le_refl _) _
  have k0 : w1.cell? ⟨bb, 0, none⟩ = some (.int .i64 3) := by rw [hw1, hbb]; simp
  have k1 : w1.cell? ⟨bb, 1, none⟩ = some (.int .i64 (cn : Int)) := by rw [hw1, hbb]; simp
  have k2 : w1.cell? ⟨bb, 2, none⟩ = some (.int .i64 (en : Int)) := by rw [hw1, hbb]; simp
  have k3 : w1.cell? ⟨bb, 3, none⟩ = some (.slice va n vc) := by rw [hw1, hbb]; simp
  have HB1 := Hid.mk' hb1
  have HbF : Hid (bb ∉ P :: F) := by
    show _ ∉ _
    intro hk
    rcases List.mem_cons.1 hk with hk | hk
    · omega
    · have := HFl.out _ hk; omega
  have hgt : ¬ (65536 : Int) < (en : Int) + (C : Int) := by omega
  have hge : ¬ (en : Int) + (C : Int) > 65536 := by omega
  go_enter Tryz.func75, Tryz.ntmps75
  go_upto_region 1 with fail
  rw [← hw1, ← hbb]
  clear hw1 hb1 hbb
  go_wp2_with fail
  refine (HBs.out w1).mono ?_
  rintro e w2 ⟨rfl, hb2⟩
  have HB2 := Hid.mk' (HB1.out.trans (hb2.mono HB1.out.size))
  replace k0 := cell_on hb2 k0
  replace k1 := cell_on hb2 k1
  replace k2 := cell_on hb2 k2
  replace k3 := cell_on hb2 k3
  have HGd : Hid (Calls Tryz.prog 104 #[.pointer (some ⟨P, 0, none⟩), .agg #[.int .i64 2, .int .i64 0, .int .i64 (en : Int), .slice none 0 0]] w2 fun e w' => e = .returned (.tuple #[]) ∧ SgM f w2 w' P D R (x.gd f 2 0 en) F) := guard_g0 (HS.out.on HB2.out) hf (by omega) 2 0 en (by omega) (by omega) (by omega)
  have K0 := Hid.mk' k0
  have K1 := Hid.mk' k1
  have K2 := Hid.mk' k2
  have K3 := Hid.mk' k3
  clear hb2 HB1 HBs
  go_wp2_with fail
  refine HGd.out.mono ?_
  rintro e w3 ⟨rfl, hM3⟩
  have HF3 : Hid (Fr (P :: F) w2 w3) := by obtain ⟨_, _, h3, _⟩ := hM3; exact h3
  replace k0 := HF3.out.cell k0 HbF.out
  replace k1 := HF3.out.cell k1 HbF.out
  replace k2 := HF3.out.cell k2 HbF.out
  replace k3 := HF3.out.cell k3 HbF.out
  have HCt := Hid.mk' (hM3.call (fun F1 hs1 _ _ => scut_g hs1 hf (by have := Sd.gd_s f x 2 0 en; omega) logN nam_log en (by omega)))
  clear hM3 HGd HF3
  go_wp2_with fail
  refine HCt.out.mono ?_
  rintro e w4 ⟨rfl, hM4⟩
  have HF4 : Hid (Fr (P :: F) w2 w4) := by obtain ⟨_, _, h3, _⟩ := hM4; exact h3
  have HM4 := Hid.mk' hM4
  clear hM4 HCt
  go_upto_region 6 with fail
  obtain ⟨y, hy⟩ : ∃ y, (x.gd f 2 0 en).ct f logN en = y := ⟨_, rfl⟩
  have HYs : Hid (y.s ≤ 999003) := by
    show _ ≤ _
    rw [← hy]
    have h1 := Sd.gd_s f x 2 0 en
    have h2 := Sd.ct_s f (x.gd f 2 0 en) logN en
    omega
  rw [hy] at HM4
  have HYe : Hid (x.ex f en cn (X.map pr) = ((y.wr f logN en (encB 3 cn en (X.map pr))).sy f logN).rm f jourN) := by show _ = _; unfold Sd.ex; rw [hy]
  clear hy
  replace k0 := (HF4.out.cell (a := ⟨bb, 0, none⟩) K0.out HbF.out)
  replace k1 := (HF4.out.cell (a := ⟨bb, 1, none⟩) K1.out HbF.out)
  replace k2 := (HF4.out.cell (a := ⟨bb, 2, none⟩) K2.out HbF.out)
  replace k3 := (HF4.out.cell (a := ⟨bb, 3, none⟩) K3.out HbF.out)
  obtain ⟨EB, hEB⟩ : ∃ EB, encB 3 cn en (X.map pr) = EB := ⟨_, rfl⟩
  have HEn : Hid (Calls Tryz.prog 105 #[.agg #[.int .i64 3, .int .i64 (cn : Int), .int .i64 (en : Int), .slice va n vc]] w4.drew fun e w' => ∃ g, e = .returned (.slice (some ⟨g, 0, none⟩) C C) ∧ Rw w' (.slice (some ⟨g, 0, none⟩) C C) EB ∧ w4.heap.size ≤ g ∧ Below w4.heap.size w4 w') := by
    have hx4 : Lfs w4.drew base (.slice va n vc) X := by
      have h9 := (HX.out.on HB2.out).fr HF4.out HV.out HPp.out
      rw [HN.out] at h9
      exact h9.on (Below.refl _ _).drew
    have h8 := encode_g 3 cn en (by omega) (by omega) (by omega) w4.drew hx4 HXn.out (by rw [HN.out]; omega) HXw.out C HC.out
    rw [hEB] at h8
    refine h8.mono ?_
    rintro e w' ⟨g, rfl, hr, hg, hb⟩
    exact ⟨g, rfl, hr, hg, (Below.refl _ _).drew.trans hb⟩
  have HWr : Hid (∀ (g : Nat) (w5 : World), w4.heap.size ≤ g → Below w4.heap.size w4 w5 → Rw w5 (.slice (some ⟨g, 0, none⟩) C C) EB → Calls Tryz.prog 98 #[.pointer (some ⟨P, 0, none⟩), .string logN, .int .i64 (en : Int), .slice (some ⟨g, 0, none⟩) C C] w5 fun e w' => e = .returned (.tuple #[]) ∧ SgM f w2 w' P D R (y.wr f logN en EB) F) := fun g w5 hg hb hr => by
    obtain ⟨F4, hs4, hF4, hn4⟩ := HM4.out
    refine (swrite_g (hs4.on hb) hf (by have := HYs.out; omega) logN nam_log en (some ⟨g, 0, none⟩) C EB C (by rw [← hEB]; exact HEl.out) hr.sees (fun a ha hk => ?_) (by have := HC.out; omega) (by omega)).mono ?_
    · obtain rfl := by simpa using ha
      have := hs4.2.1.lt _ hk
      simp at this
      omega
    · rintro e w' ⟨rfl, hM⟩
      exact ⟨rfl, sg_step hF4 hn4 (hM.since hb)⟩
  rw [hEB] at HYe
  have hS := Hid.mk' (show (fun w' : World => w'.cell? ⟨bb, 0, none⟩ = some (.int .i64 3) ∧ w'.cell? ⟨bb, 1, none⟩ = some (.int .i64 (cn : Int)) ∧ w'.cell? ⟨bb, 2, none⟩ = some (.int .i64 (en : Int)) ∧ w'.cell? ⟨bb, 3, none⟩ = some (.slice va n vc)) w4 from ⟨k0, k1, k2, k3⟩)
  go_region_held3 (fun w' : World => w'.cell? ⟨bb, 0, none⟩ = some (.int .i64 3) ∧ w'.cell? ⟨bb, 1, none⟩ = some (.int .i64 (cn : Int)) ∧ w'.cell? ⟨bb, 2, none⟩ = some (.int .i64 (en : Int)) ∧ w'.cell? ⟨bb, 3, none⟩ = some (.slice va n vc)) (first | exact hS.out | assumption | go_keep)
    (first
      | (go_at_call 105; refine HEn.out.mono ?_; rintro e w5 ⟨g, rfl, hr, hg, hb⟩; have HWr5 := Hid.mk' (HWr.out g w5 hg hb hr); have hS := Hid.mk' (show (fun w' : World => w'.cell? ⟨bb, 0, none⟩ = some (.int .i64 3) ∧ w'.cell? ⟨bb, 1, none⟩ = some (.int .i64 (cn : Int)) ∧ w'.cell? ⟨bb, 2, none⟩ = some (.int .i64 (en : Int)) ∧ w'.cell? ⟨bb, 3, none⟩ = some (.slice va n vc)) w5 from ⟨cell_on hb k0, cell_on hb k1, cell_on hb k2, cell_on hb k3⟩); clear hr hg hb)
      | (go_at_call 98; refine HWr5.out.mono ?_; rintro e w6 ⟨rfl, hM6⟩; have HM6 := Hid.mk' hM6; have hS := Hid.mk' (show (fun w' : World => w'.cell? ⟨bb, 0, none⟩ = some (.int .i64 3) ∧ w'.cell? ⟨bb, 1, none⟩ = some (.int .i64 (cn : Int)) ∧ w'.cell? ⟨bb, 2, none⟩ = some (.int .i64 (en : Int)) ∧ w'.cell? ⟨bb, 3, none⟩ = some (.slice va n vc)) w6 from (by obtain ⟨_, _, hF6, _⟩ := hM6; exact ⟨hF6.cell K0.out HbF.out, hF6.cell K1.out HbF.out, hF6.cell K2.out HbF.out, hF6.cell K3.out HbF.out⟩)); clear hM6))
  clear hS HEn HWr k0 k1 k2 k3
  have HSy := Hid.mk' (HM6.out.call (fun F1 hs1 _ _ => ssync_g hs1 hf (by have := Sd.wr_s f y logN en EB; have := HYs.out; omega) logN nam_log))
  go_wp2_with fail
  refine HSy.out.mono ?_
  rintro e w7 ⟨rfl, hM7⟩
  have HRm := Hid.mk' (hM7.call (fun F1 hs1 _ _ => sremove_g hs1 hf (by have := Sd.wr_s f y logN en EB; have := Sd.sy_s f (y.wr f logN en EB) logN; have := HYs.out; omega) jourN nam_jour))
  clear hM7 HSy HM6 HM4
  go_wp2_with fail
  refine HRm.out.mono ?_
  rintro e w8 ⟨rfl, hM8⟩
  have HM8 : Hid (SgM f w w8 P D R (x.ex f en cn (X.map pr)) F) := by
    show SgM _ _ _ _ _ _ _ _
    rw [HYe.out]
    exact hM8.since HB2.out
  clear hM8 HRm
  go_wp2
  go_end0
  exact ⟨rfl, HM8.out⟩
end Go.Proofs.YtjimhikfmccicaaGreat
