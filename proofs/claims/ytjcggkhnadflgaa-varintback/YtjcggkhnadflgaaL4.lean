/-
  The law VarintBack: the walk.
-/
import Derived.Test.YtjcggkhnadflgaaS4
namespace Go.Proofs.Ytjcggkhnadflgaa
open Go.RowKit

set_option maxRecDepth 100000 in
set_option maxHeartbeats 1000000 in
theorem back_walk (v : Value) (len : Nat) (N : Nat → Int) (V : Nat → Value) (S : Nat → List Nat) (w : World) (hA : Asks w v len N V S) (hZ : ∀ i, i < len → (S i).length ≤ 140737488351232) :
    Calls Try.prog 4 #[v] w fun e w' => e = .returned (.bool true) ∧ Below w.heap.size w w' := by
  obtain ⟨a, cap, rfl, hmax, hA⟩ := hA
  go_enter Try.func4, Try.ntmps4
  go_wp2
  go_loopw [3] (fun i wr => ∃ k : Nat, k ≤ len ∧ k ≤ 40 ∧ i = .int .i64 k ∧ Below w.heap.size w wr) (fun i _ => 40 - (intOf i).toNat)
  case atStart => exact ⟨0, by omega, by omega, rfl, Below.refl _ _⟩
  case round =>
    obtain ⟨k, hk, hk40, rfl, hb⟩ := hrel
    by_cases hlt : k < len ∧ k < 40
    · obtain ⟨h1, h2⟩ := hlt
      obtain ⟨b, o, rfl, hc⟩ := hA (by omega)
      obtain ⟨c1, c2, hn0, hn1, hs, hl, va, vn, vc, hvr, hvc⟩ := hc k h1
      have hz := hZ k h1
      have c3 : wr.cell? ⟨b, o + k * 2, none⟩ = some (.int .u64 (N k)) := cell_on hb c1
      have c4 : wr.cell? ⟨b, o + k * 2 + 1, none⟩ = some (V k) := cell_on hb c2
      have hs' := hs.below hb
      rw [hvr] at c4 hs'
      have HS := Hid.mk' hs'
      have HL := Hid.mk' hl
      clear hc hA hZ c1 c2 hs hl hs' hvr
      generalize N k = n at *
      generalize S k = l at *
      have hsz := hb.size
      go_wp2_with fail
      have d1 : (wr.alloc (.cells #[.int .u64 n, .slice va vn vc] 26)).cell? ⟨wr.heap.size, 0, none⟩ = some (.int .u64 n) := by simp
      have d2 : (wr.alloc (.cells #[.int .u64 n, .slice va vn vc] 26)).cell? ⟨wr.heap.size, 1, none⟩ = some (.slice va vn vc) := by simp
      have qA : Below w.heap.size w (wr.alloc (.cells #[.int .u64 n, .slice va vn vc] 26)) := hb.alloc hsz _
      have SA := Hid.mk' (HS.out.below ((Below.refl _ wr).alloc (Nat.le_refl _) (.cells #[.int .u64 n, .slice va vn vc] 26)))
      have hp0 : wr.heap.size < (wr.alloc (.cells #[.int .u64 n, .slice va vn vc] 26)).heap.size := by simp
      clear HS c3 c4
      generalize wr.alloc (.cells #[.int .u64 n, .slice va vn vc] 26) = wA at *
      generalize wr.heap.size = p0 at *
      clear hb hsz
      refine (put_any n hn0 hn1 _).mono ?_
      rintro e w1 ⟨v1, rfl, ho1, hb1⟩
      have HG := Hid.mk' (M.get_bytes n.toNat (by omega) l)
      have HP := Hid.mk' (fun j (h : j < M.size n.toNat) => M.get_prefix n.toNat j h)
      have HU := Hid.mk' (M.size_up n.toNat)
      have HD := Hid.mk' (M.size_down n.toNat)
      have H9 := Hid.mk' (M.size_nine n.toNat)
      have HBL := Hid.mk' (M.bytes_lt n.toNat)
      have hlen := M.bytes_length n.toNat
      have hs1 := M.size_pos n.toNat
      have hs9 := M.size_le n.toNat
      have k1 := cell_on hb1 d1
      have j1 := cell_on hb1 d2
      have q1 := qA.trans (hb1.mono qA.size)
      have hz1 := hb1.size
      have z1 := Hid.mk' (SA.out.below hb1)
      have s1 := Hid.mk' (owns_sees ho1 hs1 (by omega))
      have O1 := Hid.mk' ho1
      have hpA : p0 < w1.heap.size := by omega
      have hqA := qA.size
      generalize wA.heap.size = base at *
      clear d1 d2 SA hb1 qA
      obtain ⟨g, cp, rfl, _, _, _, _⟩ := owns_open ho1 hs1
      clear ho1
      have hcp : M.size n.toNat ≤ cp := by
        rcases O1.out.2 with ⟨h, _⟩ | ⟨g', cap', cur, h, _, _, hle, _⟩
        · simp at h
        · simp at h; omega
      have hL9 : (M.bytes n.toNat).length ≤ 140737488351232 := by omega
      have HLen := Hid.mk' hlen
      clear hlen
      generalize M.bytes n.toNat = L at *
      generalize M.size n.toNat = s at *
      have HGA : Hid (∀ (W : World) (x : Value), Sees W x (L ++ l) → Calls Try.prog 13 #[x] W fun e w' => e = .returned (.tuple #[.int .u64 n, .int .i64 s, .int .i64 0]) ∧ w' = W) := by
        intro W x hx
        have h := get_any x (L ++ l) W hx (fun y hy => by rcases List.mem_append.1 hy with h | h; exact HBL.out y h; exact HL.out y h)
        rw [HG.out] at h
        simp only [Int.toNat_of_nonneg hn0] at h
        exact h
      clear HG HL
      have HAP : Hid (∀ (W : World) (x : Value), W.ownsRow w1.heap.size 5 1 x L.length (L.map B8) → Below w1.heap.size w1 W → ∃ v3 w3, (Builtin.append_ #[24, 24] 24 #[x, .slice va vn vc]).run Try.prog W = .ok v3 w3 ∧ Sees w3 v3 (L ++ l) ∧ Below w1.heap.size w1 w3) := by
        intro W x hx hB
        have hll := HLen.out
        obtain ⟨v3, w3, e1, e2, e3⟩ := append_bytes W w1.heap.size x L.length _ (.slice va vn vc) l hx (by omega) (z1.out.below hB) (by omega) hB.size
        refine ⟨v3, w3, e1, ?_, hB.grown e3 hB.size (fun q hq => (hx.lt q hq).1)⟩
        rw [← List.map_append] at e2
        exact owns_sees' e2 (by omega)
      go_wp2
      go_region_held3 (fun w' => w'.cell? ⟨p0, 1, none⟩ = some (.slice va vn vc)) (first | assumption | go_keep)
        (first
          | (go_at_call 12; refine (copy_any _ L _ s1.out.drew hL9).mono ?_; rintro e w2 ⟨v2, rfl, ho2, hb2⟩; have hB2 : Below w1.heap.size w1 w2 := ((Below.refl _ _).drew).trans hb2; have j2 := cell_on hB2 j1; obtain ⟨v3, w3, hr3, hy3, hb3⟩ := HAP.out w2 v2 ho2 hB2; have HR3 := Hid.mk' hr3; have Y3 := Hid.mk' hy3; have j3 := cell_on hb3 j1; clear ho2 hb2 hB2 hr3 hy3)
          | (refine step_append_run (by rfl) _ _ 24 (by rfl) _ _ (by rfl) (by rfl) v3 w3 HR3.out ?_)
          | (go_at_call 13; refine (HGA.out _ _ Y3.out).mono ?_; rintro e w4 ⟨rfl, rfl⟩))
      have k3 := cell_on hb3 k1
      have O3 := Hid.mk' (owns_below O1.out hb3)
      have S3 := Hid.mk' (s1.out.below hb3)
      have q3 := q1.trans (hb3.mono (by omega))
      have hz3 : base ≤ _ := Nat.le_trans hz1 hb3.size
      have hp3 : p0 < base := hp0
      clear HAP HGA HR3 Y3 j2 j3 hb3 k1 j1 q1 z1 s1 O1 hz1 hpA hz hvc hL9
      have t1 : decide ((s : Int) < 1) = false := by rw [decide_eq_false_iff_not]; omega
      have t2 : decide ((9 : Int) < (s : Int)) = false := by rw [decide_eq_false_iff_not]; omega
      go_wp2_with fail
      refine (num_any _ _).mono ?_
      rintro e w5 ⟨rfl, rfl⟩
      go_wp2
      have HGP : Hid (∀ j : Nat, j < s → Calls Try.prog 13 #[.slice (some ⟨g, 0, none⟩) j cp] w5 fun e w' => e = .returned (.tuple #[.int .u64 0, .int .i64 0, .int .i64 1]) ∧ w' = w5) := by
        intro j hj
        have h := get_any _ (L.take j) _ (S3.out.take j (by have := HLen.out; omega)) (fun y hy => HBL.out y (List.mem_of_mem_take hy))
        rw [HP.out j hj] at h
        exact h
      clear HP HBL S3
      have f2 : ¬ cp = 0 := by omega
      go_loopw [10] (fun i wr2 => ∃ j : Nat, j ≤ s ∧ i = .int .i64 j ∧ wr2 = w5) (fun i _ => s - (intOf i).toNat)
      case atStart => exact ⟨0, by omega, rfl, rfl⟩
      case round =>
        obtain ⟨j, hj, rfl, rfl⟩ := hrel
        by_cases hjs : j < s
        · have f1 : (j : Int) ≤ (cp : Int) := by omega
          have f3 : (0 : Int) ≤ (j : Int) := by omega
          go_wp2_with fail
          refine (HGP.out j hjs).mono ?_
          rintro e w6 ⟨rfl, rfl⟩
          go_wp2_with fail
          refine (num_any _ _).mono ?_
          rintro e w7 ⟨rfl, rfl⟩
          go_wp2
          go_roundw
          case rel => exact ⟨j + 1, by omega, by go_num, by trivial⟩
          case measure => simp [intOf]; omega
        · go_wp2
          by_cases hs8 : s < 9
          · have a1 : decide ((s : Int) < 9) = true := decide_eq_true (by omega)
            have a2 : decide (IntKind.u64.wrap (2 ^ (7 * s)) ≤ n) = false := by
              rw [shl7' s (by omega), decide_eq_false_iff_not]
              have := HU.out hs8
              generalize 128 ^ s = q at *
              omega
            have a5 : ((s : Int) == 9) = false := by rw [beq_eq_false_iff_ne]; omega
            by_cases hs2 : 1 < s
            · have a3 : decide ((1 : Int) < (s : Int)) = true := decide_eq_true (by omega)
              have a4 : decide (n < IntKind.u64.wrap (2 ^ (7 * s - 7))) = false := by
                rw [show 7 * s - 7 = 7 * (s - 1) by omega, shl7' (s - 1) (by omega), decide_eq_false_iff_not]
                have := HD.out hs2 hs8
                generalize 128 ^ (s - 1) = q at *
                omega
              go_quiet (fail)
              go_wp2_with fail
              refine (spoil_any _ s base L _ (owns_below O3.out (below_drewN (Below.refl _ _) _)) (by omega) (by omega) (by simpa using hz3)).mono ?_
              rintro e w8 ⟨rfl, hb8⟩
              have k8 : w8.cell? ⟨p0, 0, none⟩ = some (.int .u64 n) := (hb8.cell (p := ⟨p0, 0, none⟩) hp3).trans (by simpa using k3)
              have q8 : Below w.heap.size w w8 := (below_drewN q3 _).trans (hb8.mono hqA)
              have hz8 := q8.size
              clear hb8 k3 q3 O3 a1 a2 a3 a4 a5
              go_wp2
              go_region_held3 (fun w' => w'.cell? ⟨p0, 0, none⟩ = some (.int .u64 n)) (first | assumption | go_keep)
                (first
                  | (go_at_call 10; refine (put_any n hn0 hn1 _).mono ?_; rintro e w9 ⟨v9, rfl, ho9, hb9⟩; have k9 : w9.cell? ⟨p0, 0, none⟩ = some (.int .u64 n) := cell_on hb9 (by simpa using k8); have s9 := owns_sees ho9 (M.size_pos _) (by have := M.size_le n.toNat; omega); have q9 : Below w.heap.size w w9 := (q8.drew).trans (hb9.mono hz8); clear ho9 hb9)
                  | (go_at_call 11; refine (rput_any n hn0 hn1 _).mono ?_; rintro e w10 ⟨v10, rfl, ho10, hb10⟩; have k10 : w10.cell? ⟨p0, 0, none⟩ = some (.int .u64 n) := cell_on hb10 (by simpa using k9); have s10 := owns_sees ho10 (M.size_pos _) (by have := M.size_le n.toNat; omega); have s11 := s9.below hb10; have q10 : Below w.heap.size w w10 := q9.trans (hb10.mono q9.size); clear ho10 hb10)
                  | (go_at_call 9; refine (eq_any _ _ _ _ _ s11 s10).mono ?_; rintro e w11 ⟨rfl, nq11, rfl⟩; have k11 : (w10.drewN nq11).cell? ⟨p0, 0, none⟩ = some (.int .u64 n) := by simpa using k10))
              clear s9 s10 s11 k8 k9 k10 k11 q8 q9
              go_wp2
              go_roundw
              case rel => exact ⟨k + 1, by omega, by omega, by go_num, below_drewN q10 _⟩
              case measure => simp [intOf]; omega
            · have a3 : decide ((1 : Int) < (s : Int)) = false := by rw [decide_eq_false_iff_not]; omega
              go_quiet (fail)
              go_wp2_with fail
              refine (spoil_any _ s base L _ (owns_below O3.out (below_drewN (Below.refl _ _) _)) (by omega) (by omega) (by simpa using hz3)).mono ?_
              rintro e w8 ⟨rfl, hb8⟩
              have k8 : w8.cell? ⟨p0, 0, none⟩ = some (.int .u64 n) := (hb8.cell (p := ⟨p0, 0, none⟩) hp3).trans (by simpa using k3)
              have q8 : Below w.heap.size w w8 := (below_drewN q3 _).trans (hb8.mono hqA)
              have hz8 := q8.size
              clear hb8 k3 q3 O3 a1 a2 a3 a5
              go_wp2
              go_region_held3 (fun w' => w'.cell? ⟨p0, 0, none⟩ = some (.int .u64 n)) (first | assumption | go_keep)
                (first
                  | (go_at_call 10; refine (put_any n hn0 hn1 _).mono ?_; rintro e w9 ⟨v9, rfl, ho9, hb9⟩; have k9 : w9.cell? ⟨p0, 0, none⟩ = some (.int .u64 n) := cell_on hb9 (by simpa using k8); have s9 := owns_sees ho9 (M.size_pos _) (by have := M.size_le n.toNat; omega); have q9 : Below w.heap.size w w9 := (q8.drew).trans (hb9.mono hz8); clear ho9 hb9)
                  | (go_at_call 11; refine (rput_any n hn0 hn1 _).mono ?_; rintro e w10 ⟨v10, rfl, ho10, hb10⟩; have k10 : w10.cell? ⟨p0, 0, none⟩ = some (.int .u64 n) := cell_on hb10 (by simpa using k9); have s10 := owns_sees ho10 (M.size_pos _) (by have := M.size_le n.toNat; omega); have s11 := s9.below hb10; have q10 : Below w.heap.size w w10 := q9.trans (hb10.mono q9.size); clear ho10 hb10)
                  | (go_at_call 9; refine (eq_any _ _ _ _ _ s11 s10).mono ?_; rintro e w11 ⟨rfl, nq11, rfl⟩; have k11 : (w10.drewN nq11).cell? ⟨p0, 0, none⟩ = some (.int .u64 n) := by simpa using k10))
              clear s9 s10 s11 k8 k9 k10 k11 q8 q9
              go_wp2
              go_roundw
              case rel => exact ⟨k + 1, by omega, by omega, by go_num, below_drewN q10 _⟩
              case measure => simp [intOf]; omega
          · have b1 : decide ((s : Int) < 9) = false := by rw [decide_eq_false_iff_not]; omega
            have b2 : decide ((1 : Int) < (s : Int)) = true := decide_eq_true (by omega)
            have b3 : ((s : Int) == 9) = true := by rw [beq_iff_eq]; omega
            have b4 : decide (n < 72057594037927936) = false := by
              have := H9.out (by omega)
              rw [decide_eq_false_iff_not]; omega
            go_quiet (fail)
            go_wp2_with fail
            refine (spoil_any _ s base L _ (owns_below O3.out (below_drewN (Below.refl _ _) _)) (by omega) (by omega) (by simpa using hz3)).mono ?_
            rintro e w8 ⟨rfl, hb8⟩
            have k8 : w8.cell? ⟨p0, 0, none⟩ = some (.int .u64 n) := (hb8.cell (p := ⟨p0, 0, none⟩) hp3).trans (by simpa using k3)
            have q8 : Below w.heap.size w w8 := (below_drewN q3 _).trans (hb8.mono hqA)
            have hz8 := q8.size
            clear hb8 k3 q3 O3 b1 b2 b3 b4
            go_wp2
            go_region_held3 (fun w' => w'.cell? ⟨p0, 0, none⟩ = some (.int .u64 n)) (first | assumption | go_keep)
              (first
                | (go_at_call 10; refine (put_any n hn0 hn1 _).mono ?_; rintro e w9 ⟨v9, rfl, ho9, hb9⟩; have k9 : w9.cell? ⟨p0, 0, none⟩ = some (.int .u64 n) := cell_on hb9 (by simpa using k8); have s9 := owns_sees ho9 (M.size_pos _) (by have := M.size_le n.toNat; omega); have q9 : Below w.heap.size w w9 := (q8.drew).trans (hb9.mono hz8); clear ho9 hb9)
                | (go_at_call 11; refine (rput_any n hn0 hn1 _).mono ?_; rintro e w10 ⟨v10, rfl, ho10, hb10⟩; have k10 : w10.cell? ⟨p0, 0, none⟩ = some (.int .u64 n) := cell_on hb10 (by simpa using k9); have s10 := owns_sees ho10 (M.size_pos _) (by have := M.size_le n.toNat; omega); have s11 := s9.below hb10; have q10 : Below w.heap.size w w10 := q9.trans (hb10.mono q9.size); clear ho10 hb10)
                | (go_at_call 9; refine (eq_any _ _ _ _ _ s11 s10).mono ?_; rintro e w11 ⟨rfl, nq11, rfl⟩; have k11 : (w10.drewN nq11).cell? ⟨p0, 0, none⟩ = some (.int .u64 n) := by simpa using k10))
            clear s9 s10 s11 k8 k9 k10 k11 q8 q9
            go_wp2
            go_roundw
            case rel => exact ⟨k + 1, by omega, by omega, by go_num, below_drewN q10 _⟩
            case measure => simp [intOf]; omega
    · have t : k < len → ¬ k < 40 := fun h1 h2 => hlt ⟨h1, h2⟩
      by_cases h1 : k < len
      all_goals
        go_wp2_with fail
        refine (wakes_any _).mono ?_
        rintro e w3 ⟨rfl, rfl⟩
        go_wp2
        go_ret
        exact ⟨rfl, hb.alloc hb.size _⟩
end Go.Proofs.Ytjcggkhnadflgaa
