/-
  The law package's page, Mode and Open; a new disk.
-/
import Derived.Test.YtkdbenofheffiaaGreatTq
import Derived.Test.YtkdbenofheffiaaGreatMg19
import Derived.Test.YtkdbenofheffiaaGreatNe
namespace Go.Proofs.YtkdbenofheffiaaGreat
open Go.RowKit Go.Maps Go.Sort Go.Shelf

/-- The law package's page of a byte. -/
def pgL (b : Int) : List Nat := (List.range 512).map fun i => ((b + ((i % 7 : Nat) : Int)) % 256).toNat
theorem pgL_length (b : Int) : (pgL b).length = 512 := by unfold pgL; simp
theorem pgL_at (b : Int) (k : Nat) (hk : k < 512) : (pgL b)[k]'(by rw [pgL_length]; exact hk) = ((b + ((k % 7 : Nat) : Int)) % 256).toNat := by
  unfold pgL
  simp
def pgK (b : Int) (k : Nat) : List Nat := (pgL b).take k ++ (nul 512).drop k
theorem pgK_length (b : Int) (k : Nat) (hk : k ≤ 512) : (pgK b k).length = 512 := by
  unfold pgK
  rw [List.length_append, List.length_take, pgL_length, List.length_drop, nul_length]
  omega
theorem pgK_set (b : Int) (k : Nat) (hk : k < 512) : (pgK b k).set k ((b + ((k % 7 : Nat) : Int)) % 256).toNat = pgK b (k + 1) := by
  unfold pgK
  have h1 : ((pgL b).take k).length = k := by rw [List.length_take, pgL_length]; omega
  rw [List.set_append_right _ _ (by omega), h1, Nat.sub_self, List.take_succ_eq_append_getElem (by rw [pgL_length]; exact hk), pgL_at b k hk, List.append_assoc]
  congr 1
  rw [List.drop_eq_getElem_cons (by rw [nul_length]; exact hk)]
  rfl

theorem within_num (i : Int) (n : Nat) (h1 : 1 ≤ n) (h2 : n ≤ 9223372036854775807) : ∃ r : Nat, wrap64 ((IntKind.u64.wrap i).tmod n) = (r : Int) ∧ r < n := by
  have h0 : 0 ≤ IntKind.u64.wrap i := by
    simp only [IntKind.wrap, IntKind.bits, IntKind.signed]
    simp
    omega
  generalize IntKind.u64.wrap i = x at *
  rw [Int.tmod_eq_emod_of_nonneg h0]
  have h3 := Int.emod_nonneg x (b := (n : Int)) (by omega)
  have h4 := Int.emod_lt_of_pos x (b := (n : Int)) (by omega)
  generalize x % (n : Int) = y at *
  refine ⟨y.toNat, ?_, by omega⟩
  rw [Int.toNat_of_nonneg h3]
  unfold wrap64
  omega
/-- One number below n, whatever the world is. -/
theorem within_ex (i : Int) (n : Nat) (N : Int) (hN : N = (n : Int)) (h1 : 1 ≤ n) (h2 : n ≤ 9223372036854775807) :
    ∃ r : Nat, r < n ∧ ∀ w : World, Calls Tryz.prog 24 #[.int .i64 i, .int .i64 N] w fun e w' => e = .returned (.int .i64 r) ∧ w' = w := by
  subst hN
  obtain ⟨r, hr, hlt⟩ := within_num i n h1 h2
  refine ⟨r, hlt, fun w => ?_⟩
  have hz : ((n : Int) == 0) = false := by rw [beq_eq_false_iff_ne]; omega
  go_enter Tryz.func24, Tryz.ntmps24
  go_wp2
  go_ret
  refine ⟨?_, rfl⟩
  rw [← hr]
  rfl

theorem dnew_nil (w : World) : Calls Tryz.prog 31 #[.slice none 0 0, .slice none 0 0] w fun e w' => ∃ D F, e = .returned (.tuple #[.pointer (some ⟨D, 0, none⟩), .int .i64 0]) ∧ Dz w' D 0 [] F ∧ (∀ k ∈ F, w.heap.size ≤ k) ∧ Below w.heap.size w w' := by
  refine (new_any (.slice none 0 0) (.slice none 0 0) [] [] w (gs_nil w) (ts_nil w) rfl (by simp) (fun j hj => by simp at hj) (by simp) (fun w1 hb1 => ?_)).mono ?_
  · refine (files_any (.slice none 0 0) [] w1 (gs_nil w1)).mono ?_
    rintro e w' ⟨rfl, hb⟩
    exact ⟨rfl, hb⟩
  · rintro e w' ⟨D, mb, v, L, rfl, hD, hb, hf, hL⟩
    obtain rfl : L = [] := by simpa using hL
    exact ⟨D, _, rfl, ⟨mb, v, [], 0, hD, by omega, (by simp [M.rise, names]), rfl, rfl⟩, hf, hb⟩

set_option maxRecDepth 100000 in
set_option maxHeartbeats 1000000 in
theorem lopen_ok {w : World} {D n : Nat} {A : List AF} {F : List Nat} (h : Dz w D n A F) (hj : M.has (nmA A) jourN = false) (md : Int) (hm : md = 1 ∨ md = 2) :
    Calls Tryz.prog 32 #[.pointer (some ⟨D, 0, none⟩), .int .i64 md] w fun e w' => ∃ P lb, e = .returned (.pointer (some ⟨P, 0, none⟩)) ∧ Pg w' P D md lb 0 1 0 0 none 0 none none 0 0 0 ∧ Tb w' lb 119 zeroL ∧ P ≠ lb ∧ w.heap.size ≤ P ∧ w.heap.size ≤ lb ∧ Below w.heap.size w w' := by
  have HZ := Hid.mk' h
  have HJ := Hid.mk' hj
  clear h hj
  go_enter Tryz.func32, Tryz.ntmps32
  go_wp2_with fail
  refine (lnew_any w).mono ?_
  rintro e w1 ⟨rfl, hT1, hb1⟩
  have HT1 := Hid.mk' hT1
  have HB1 := Hid.mk' hb1
  have hlt : w.heap.size < w1.heap.size := hT1.lt
  have HO := Hid.mk' (open_ok (HZ.out.on hb1) HJ.out md 0 w.heap.size hm (by omega))
  obtain ⟨lb, hlb⟩ : ∃ lb, w.heap.size = lb := ⟨_, rfl⟩
  have HLb := Hid.mk' hlb
  rw [hlb] at HT1 HO hlt
  rw [hlb]
  clear hT1 hb1 hlb hm
  go_wp2_with fail
  refine HO.out.mono ?_
  rintro e w2 ⟨rfl, hP2, hb2⟩
  have HP2 := Hid.mk' hP2
  have HB2 := Hid.mk' hb2
  clear hP2 hb2 HO
  go_wp2_with fail
  refine (num_any 0 w2).mono ?_
  rintro e w3 ⟨rfl, hw⟩
  obtain rfl := hw.symm
  clear hw
  go_wp2
  go_ret
  have h1 := HB1.out.size
  have h3 := HLb.out
  exact ⟨_, lb, rfl, HP2.out, HT1.out.below HB2.out, by omega, by omega, by omega, HB1.out.trans (HB2.out.mono HB1.out.size)⟩
end Go.Proofs.YtkdbenofheffiaaGreat
