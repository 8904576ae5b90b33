/-
  The law package's page, Mode and Open; a new disk.
-/
import Derived.Test.YtkmcjgaicjeajaaGreatTq
import Derived.Test.YtkmcjgaicjeajaaGreatNw
import Derived.Test.YtkmcjgaicjeajaaGreatNe
import Derived.Test.YtkmcjgaicjeajaaGreatWk
namespace Go.Proofs.YtkmcjgaicjeajaaGreat
open Go.RowKit Go.Maps Go.Sort Go.Shelf

/-- The law package's page of a byte. -/
def pgL (b : Int) : List Nat := (List.range 512).map fun i => ((b + ((i % 7 : Nat) : Int)) % 256).toNat
theorem pgL_length (b : Int) : (pgL b).length = 512 := by unfold pgL; simp
theorem pgL_at (b : Int) (k : Nat) (hk : k < 512) : (pgL b)[k]'(by rw [pgL_length]; exact hk) = ((b + ((k % 7 : Nat) : Int)) % 256).toNat := by
  unfold pgL
  simp
def pgK (b : Int) (k : Nat) : List Nat := (pgL b).take k ++ (nul 512).drop k
theorem pgK_length (b : Int) (k : Nat) (hk : k ≤ 512) : (pgK b k).length = 512 := by
  unfold pgK
  rw [List.length_append, List.length_take, pgL_length, List.length_drop, nul_length]
  omega
theorem pgK_set (b : Int) (k : Nat) (hk : k < 512) : (pgK b k).set k ((b + ((k % 7 : Nat) : Int)) % 256).toNat = pgK b (k + 1) := by
  unfold pgK
  have h1 : ((pgL b).take k).length = k := by rw [List.length_take, pgL_length]; omega
  rw [List.set_append_right _ _ (by omega), h1, Nat.sub_self, List.take_succ_eq_append_getElem (by rw [pgL_length]; exact hk), pgL_at b k hk, List.append_assoc]
  congr 1
  rw [List.drop_eq_getElem_cons (by rw [nul_length]; exact hk)]
  rfl

set_option maxRecDepth 100000 in
set_option maxHeartbeats 1000000 in
theorem page_any (b : Int) (w : World) : Calls Tryz.prog 15 #[.int .i64 b] w fun e w' => ∃ g, e = .returned (.slice (some ⟨g, 0, none⟩) 512 512) ∧ Rw w' (.slice (some ⟨g, 0, none⟩) 512 512) (pgL b) ∧ w.heap.size ≤ g ∧ Below w.heap.size w w' := by
  have hmk := make_512 w
  obtain ⟨w1, hw1⟩ : ∃ w1, w1 = w.alloc (.cells ((nul 512).map B8).toArray 5) := ⟨_, rfl⟩
  obtain ⟨g, hg⟩ : ∃ g, g = w.heap.size := ⟨_, rfl⟩
  have HB1 : Hid (Below w.heap.size w w1) := by rw [hw1]; exact (Below.refl _ _).alloc (Nat.le_refl _) _
  have HR1 : Hid (w1.heap[g]? = some (.cells ((pgK b 0).map B8).toArray 5 (0, 0))) := by
    rw [hw1, hg, show pgK b 0 = nul 512 from rfl]
    exact heap_alloc_new w _
  have hwg : w.heap.size ≤ g := by rw [hg]; exact Nat.le_refl _
  rw [← hw1, ← hg] at hmk
  clear hw1 hg
  go_enter Tryz.func15, Tryz.ntmps15
  go_wp2
  go_loopw [4] (fun i wr => ∃ k : Nat, k ≤ 512 ∧ i = .int .i64 k ∧ wr.heap[g]? = some (.cells ((pgK b k).map B8).toArray 5 (0, 0)) ∧ Below w.heap.size w wr) (fun i _ => 512 - (intOf i).toNat)
  case atStart => exact ⟨0, by omega, rfl, HR1.out, HB1.out⟩
  case round =>
    obtain ⟨k, hk, rfl, hr, hb⟩ := hrel
    have HR := Hid.mk' hr
    have HB := Hid.mk' hb
    by_cases hlt : k < 512
    · have c0 : wr.cell? ⟨g, k, none⟩ = some (B8 ((pgK b k).getD k 0)) := by
        rw [cell_of_row wr g k _ _ (0, 0) hr]
        have hl2 : k < (pgK b k).length := by rw [pgK_length b k hk]; exact hlt
        simp [List.getElem?_eq_getElem hl2, List.getD_eq_getElem?_getD]
      rw [show B8 ((pgK b k).getD k 0) = .int .u8 (((pgK b k).getD k 0 : Nat) : Int) from rfl] at c0
      generalize (pgK b k).getD k 0 = old at *
      have f0 : wr.frozen? ⟨g, k, none⟩ = false := by simp [World.frozen?, hr]
      have HS : Hid ((wr.setCell ⟨g, k, none⟩ (.int .u8 ((b + ((k % 7 : Nat) : Int)) % 256))).heap[g]? = some (.cells ((pgK b (k + 1)).map B8).toArray 5 (0, 0))) := by
        show _ = _
        have h1 := heap_setCell_same wr g k _ 5 (.int .u8 ((b + ((k % 7 : Nat) : Int)) % 256)) HR.out
        rw [h1, List.setIfInBounds_toArray, ← pgK_set b k hlt, List.map_set]
        have : B8 ((b + ((k % 7 : Nat) : Int)) % 256).toNat = .int .u8 ((b + ((k % 7 : Nat) : Int)) % 256) := by
          show Value.int .u8 _ = _
          congr 1
          omega
        rw [this]
      clear hr hb
      go_wp2
      have hx : wrap64 (b + (k : Int) % 7) % 256 = (b + ((k % 7 : Nat) : Int)) % 256 := by unfold wrap64; omega
      rw [hx]
      exact ⟨⟨k + 1, by omega, by go_num, HS.out, HB.out.setCell hwg _⟩, by simp [intOf]; omega⟩
    · obtain rfl : k = 512 := by omega
      clear hr hb
      go_wp2
      go_ret
      refine ⟨_, rfl, rw_row ?_ (pgL_length b) (by omega), hwg, HB.out⟩
      have := HR.out
      rw [show pgK b 512 = pgL b by unfold pgK; rw [List.take_of_length_le (by rw [pgL_length]; omega), List.drop_of_length_le (by rw [nul_length]; omega), List.append_nil]] at this
      exact this

theorem within_num (i : Int) (n : Nat) (h1 : 1 ≤ n) (h2 : n ≤ 9223372036854775807) : ∃ r : Nat, wrap64 ((IntKind.u64.wrap i).tmod n) = (r : Int) ∧ r < n := by
  have h0 : 0 ≤ IntKind.u64.wrap i := by
    simp only [IntKind.wrap, IntKind.bits, IntKind.signed]
    simp
    omega
  generalize IntKind.u64.wrap i = x at *
  rw [Int.tmod_eq_emod_of_nonneg h0]
  have h3 := Int.emod_nonneg x (b := (n : Int)) (by omega)
  have h4 := Int.emod_lt_of_pos x (b := (n : Int)) (by omega)
  generalize x % (n : Int) = y at *
  refine ⟨y.toNat, ?_, by omega⟩
  rw [Int.toNat_of_nonneg h3]
  unfold wrap64
  omega
/-- One number below n, whatever the world is. -/
theorem within_ex (i : Int) (n : Nat) (N : Int) (hN : N = (n : Int)) (h1 : 1 ≤ n) (h2 : n ≤ 9223372036854775807) :
    ∃ r : Nat, r < n ∧ ∀ w : World, Calls Tryz.prog 16 #[.int .i64 i, .int .i64 N] w fun e w' => e = .returned (.int .i64 r) ∧ w' = w := by
  subst hN
  obtain ⟨r, hr, hlt⟩ := within_num i n h1 h2
  refine ⟨r, hlt, fun w => ?_⟩
  have hz : ((n : Int) == 0) = false := by rw [beq_eq_false_iff_ne]; omega
  go_enter Tryz.func16, Tryz.ntmps16
  go_wp2
  go_ret
  refine ⟨?_, rfl⟩
  rw [← hr]
  rfl

theorem mode_ex (n : Int) : ∃ r : Nat, r < 2 ∧ ∀ w : World, Calls Tryz.prog 12 #[.int .i64 n] w fun e w' => e = .returned (.int .i64 (1 + (r : Int))) ∧ w' = w := by
  obtain ⟨r, hr, hW⟩ := within_ex n 2 2 rfl (by omega) (by omega)
  refine ⟨r, hr, fun w => ?_⟩
  have HW := Hid.mk' (hW w)
  clear hW
  go_enter Tryz.func12, Tryz.ntmps12
  go_wp2_with fail
  refine HW.out.mono ?_
  rintro e w1 ⟨rfl, hw⟩
  obtain rfl := hw.symm
  clear hw HW
  go_wp2
  go_ret
  exact ⟨ret_int (by omega), rfl⟩
theorem dnew_nil (w : World) : Calls Tryz.prog 9 #[.slice none 0 0, .slice none 0 0] w fun e w' => ∃ D F, e = .returned (.tuple #[.pointer (some ⟨D, 0, none⟩), .int .i64 0]) ∧ Dz w' D 0 [] F ∧ (∀ k ∈ F, w.heap.size ≤ k) ∧ Below w.heap.size w w' := by
  refine (new_any (.slice none 0 0) (.slice none 0 0) [] [] w (gs_nil w) (ts_nil w) rfl (by simp) (fun j hj => by simp at hj) (by simp) (fun w1 hb1 => ?_)).mono ?_
  · refine (files_any (.slice none 0 0) [] w1 (gs_nil w1)).mono ?_
    rintro e w' ⟨rfl, hb⟩
    exact ⟨rfl, hb⟩
  · rintro e w' ⟨D, mb, v, L, rfl, hD, hb, hf, hL⟩
    obtain rfl : L = [] := by simpa using hL
    exact ⟨D, _, rfl, ⟨mb, v, [], 0, hD, by omega, (by simp [M.rise, names]), rfl, rfl⟩, hf, hb⟩

set_option maxRecDepth 100000 in
set_option maxHeartbeats 1000000 in
theorem lopen_ok {w : World} {D n : Nat} {A : List AF} {F : List Nat} (h : Dz w D n A F) (hj : M.has (nmA A) jourN = false) (md : Int) (hm : md = 1 ∨ md = 2) :
    Calls Tryz.prog 11 #[.pointer (some ⟨D, 0, none⟩), .int .i64 md] w fun e w' => ∃ P lb, e = .returned (.pointer (some ⟨P, 0, none⟩)) ∧ Pg w' P D md lb 0 1 0 0 none 0 none none 0 0 0 ∧ Tb w' lb 111 zeroL ∧ P ≠ lb ∧ w.heap.size ≤ P ∧ w.heap.size ≤ lb ∧ Below w.heap.size w w' := by
  have HZ := Hid.mk' h
  have HJ := Hid.mk' hj
  clear h hj
  go_enter Tryz.func11, Tryz.ntmps11
  go_wp2_with fail
  refine (lnew_any w).mono ?_
  rintro e w1 ⟨rfl, hT1, hb1⟩
  have HT1 := Hid.mk' hT1
  have HB1 := Hid.mk' hb1
  have hlt : w.heap.size < w1.heap.size := hT1.lt
  have HO := Hid.mk' (open_ok (HZ.out.on hb1) HJ.out md 0 w.heap.size hm (by omega))
  obtain ⟨lb, hlb⟩ : ∃ lb, w.heap.size = lb := ⟨_, rfl⟩
  have HLb := Hid.mk' hlb
  rw [hlb] at HT1 HO hlt
  rw [hlb]
  clear hT1 hb1 hlb hm
  go_wp2_with fail
  refine HO.out.mono ?_
  rintro e w2 ⟨rfl, hP2, hb2⟩
  have HP2 := Hid.mk' hP2
  have HB2 := Hid.mk' hb2
  clear hP2 hb2 HO
  go_wp2_with fail
  refine (num_any 0 w2).mono ?_
  rintro e w3 ⟨rfl, hw⟩
  obtain rfl := hw.symm
  clear hw
  go_wp2
  go_ret
  have h1 := HB1.out.size
  have h3 := HLb.out
  exact ⟨_, lb, rfl, HP2.out, HT1.out.below HB2.out, by omega, by omega, by omega, HB1.out.trans (HB2.out.mono HB1.out.size)⟩
end Go.Proofs.YtkmcjgaicjeajaaGreat
