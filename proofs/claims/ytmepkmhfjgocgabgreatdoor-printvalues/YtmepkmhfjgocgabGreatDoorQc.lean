/-
  Package print's hex and literal.
-/
import Derived.Test.YtmepkmhfjgocgabGreatDoorQb
import Derived.Test.YtmepkmhfjgocgabGreatDoorQn
import Derived.Test.YtmepkmhfjgocgabGreatDoorLg
namespace Go.Proofs.YtmepkmhfjgocgabGreatDoor
open Go.ChangeShapes Go.WideShapes Go.ChangeAt Go.RowKit Go.Deep

theorem src_two (w : World) (e T : TypeId) (u v : Value) (hT : Tryz.prog.underlying T = some (.slice e)) (hu : u.oneCell' = true) (hv : v.oneCell' = true) : Src Tryz.prog 1 T (.slice (some ⟨w.heap.size, 0, none⟩) 2 2) 2 [u, v] (w.alloc (.cells #[u, v] e)) := by
  refine Src.ofSlice _ hT ⟨w.heap.size, 0, none⟩ 2 2 [u, v] rfl (fun j x hj => ?_) (fun x hx => ?_)
  · match j, hj with
    | 0, hj => simp at hj; subst hj; simp [Addr.add]
    | 1, hj => simp at hj; subst hj; simp [Addr.add]
  · simp at hx
    rcases hx with rfl | rfl
    · exact hu
    · exact hv
theorem papp2 (w : World) (base : Nat) (v : Value) (n : Nat) (G : List UInt8) (c d : UInt8) (hown : w.ownsRow base 5 1 v n (G.map UC)) (hb : n ≤ 1000000) (hbase : base ≤ w.heap.size) :
    ∃ v' w', (Builtin.append_ #[48, 48] 48 #[v, .slice (some ⟨w.heap.size, 0, none⟩) 2 2]).run Tryz.prog (w.alloc (.cells #[.int .u8 (c.toNat : Int), .int .u8 (d.toNat : Int)] 5)) = .ok v' w' ∧ (w'.ownsRow base 5 1 v' (n + 2) ((G ++ [c, d]).map UC) ∧ Below base w w') := by
  obtain ⟨i0, hi, hz0, hz1, hz2⟩ := info_parts Tryz.info5
  have hs1 := src_two w 5 48 (.int .u8 (c.toNat : Int)) (.int .u8 (d.toNat : Int)) Tryz.underlying48 rfl rfl
  obtain ⟨v5, w5, hr, ho5, hg5, hl5⟩ := run_append_src (P := Tryz.prog) (w.alloc (.cells #[.int .u8 (c.toNat : Int), .int .u8 (d.toNat : Int)] 5)) base 48 48 48 5 i0 (.int .u8 0) 1 1 Tryz.underlying48 hi hz0 hz1 hz2 rfl v n (G.map UC) (hown.alloc _) _ 2 _ hs1 (by unfold maxLen; omega) (by omega) (by simp; omega)
  have hlow := (hown.alloc (.cells #[.int .u8 (c.toNat : Int), .int .u8 (d.toNat : Int)] 5)).lt
  refine ⟨v5, w5, hr, ?_, ((Below.refl base w).alloc (by omega) _).grown hg5 (by simp; omega) (fun q hq => (hlow q hq).1)⟩
  rw [List.map_append]
  exact ho5
theorem hex_snoc (s : List UInt8) (j : Nat) (h : j < s.length) : Q.hex (s.take (j + 1)) = Q.hex (s.take j) ++ Q.hexB s[j] := by
  unfold Q.hex
  rw [List.take_succ_eq_append_getElem h, List.flatMap_append]
  simp

theorem and15 (c : UInt8) : bits .and .u8 (c.toNat : Int) 15 = (c.toNat : Int) % 16 :=
  L.all_u8 (p := fun c => bits .and .u8 (c.toNat : Int) 15 = (c.toNat : Int) % 16) (by decide +kernel) c
/-- A digit of sixteen, by its place. -/
theorem hex_at (i : Int) (k : Nat) (hi : i = (k : Int)) (hk : k < 16) (w : World) : (Instr.index 9 (.string ⟨#[48, 49, 50, 51, 52, 53, 54, 55, 56, 57, 97, 98, 99, 100, 101, 102]⟩) (.int .u8 i)).run Tryz.prog w = .ok (.int .u8 ((Q.hexD.getD k 0).toNat : Int)) w := by
  subst hi
  have hs : (⟨#[48, 49, 50, 51, 52, 53, 54, 55, 56, 57, 97, 98, 99, 100, 101, 102]⟩ : ByteArray).size = 16 := rfl
  rw [run_index_string (h := Tryz.underlying9), dif_pos ⟨by omega, by rw [hs]; omega⟩]
  have := (by decide : ∀ j : Fin 16, ((⟨#[48, 49, 50, 51, 52, 53, 54, 55, 56, 57, 97, 98, 99, 100, 101, 102]⟩ : ByteArray)[j.1]'(by rw [show (⟨#[48, 49, 50, 51, 52, 53, 54, 55, 56, 57, 97, 98, 99, 100, 101, 102]⟩ : ByteArray).size = 16 from rfl]; exact j.2)) = Q.hexD.getD j.1 0) ⟨k, hk⟩
  simp only [Int.toNat_natCast]
  rw [this]

set_option maxRecDepth 100000 in
set_option maxHeartbeats 1000000 in
theorem hex_is (s : List UInt8) (hl : s.length ≤ 100000) (w : World) :
    Calls Tryz.prog 115 #[.string (S s)] w fun e w' => e = .returned (.string (S (Q.hex s))) ∧ Below w.heap.size w w' := by
  have hsz : (S s).size = s.length := rfl
  have hD : Hid (∀ (i : Nat) (h : i < (S s).size), (S s)[i] = s[i]'(by rw [← hsz]; exact h)) := Hid.mk' (fun i h => rfl)
  have HH := Hid.mk' (hex_snoc s)
  have HL := Hid.mk' (Q.hex_len)
  generalize S s = x at hsz hD ⊢
  go_enter Tryz.func115, Tryz.ntmps115
  go_wp2
  go_loopw [3, 7] (fun t i wr => ∃ (j : Nat), j ≤ s.length ∧ i = .int .i64 j ∧ Below w.heap.size w wr ∧ wr.ownsRow w.heap.size 5 1 t (2 * j) ((Q.hex (s.take j)).map UC)) (fun _ i _ => s.length - (intOf i).toNat)
  case atStart => exact ⟨0, by omega, by go_num, Below.refl _ _, World.ownsRow_nil _ _ _ _⟩
  case round =>
    obtain ⟨j, hj, rfl, hb, ho⟩ := hrel
    have hw := hb.size
    rcases Nat.lt_or_ge j s.length with hjl | hjl
    · have hjs : j < x.size := by omega
      obtain ⟨c, hc⟩ : ∃ c, s[j] = c := ⟨_, rfl⟩
      have hcx : x[j] = c := by rw [hD.out j hjs, hc]
      have hS0 := HH.out j hjl
      rw [hc] at hS0
      have t1 : decide ((j : Int) < (x.size : Int)) = true := decide_eq_true (by omega)
      have t2 : (j : Int) < (x.size : Int) := by omega
      have k0 : c.toNat < 256 := c.toNat_lt
      have hB : Q.hexB c = [Q.hexD.getD (c.toNat / 16) 0, Q.hexD.getD (c.toNat % 16) 0] := rfl
      have h15 := and15 c
      have i1 := hex_at ((c.toNat : Int) / 16) (c.toNat / 16) (by omega) (by omega)
      have i2 := hex_at ((c.toNat : Int) % 16) (c.toNat % 16) (by omega) (by omega)
      generalize Q.hexD.getD (c.toNat / 16) 0 = da at hB i1
      generalize Q.hexD.getD (c.toNat % 16) 0 = db at hB i2
      go_wp2
      have hbwd : Below wr.heap.size wr wr.drew := below_drewN (Below.refl _ _) 1
      refine wp_region_held_drew (S := (fun _ : World => True)) (by kernel_rfl) (trivial) (fun hS => ?_)
      obtain ⟨wd, hwwd⟩ : ∃ x, wr.drew = x := ⟨_, rfl⟩
      rw [hwwd] at hbwd ⊢
      have hsd := hbwd.size
      have HA := Hid.mk' (papp2 wd w.heap.size _ _ _ da db (owns_keep ho hbwd) (by omega) (by omega))
      rw [← hB, ← hS0] at HA
      have hb1 := hb.trans (hbwd.mono hw)
      clear hbwd hwwd ho hb HH HL hS0 hB hc hD
      refine wpAnyH_take (i := 0) (v := ?_) rfl (by kernel_rfl) (by kernel_rfl) (by kernel_rfl) (fun _ _ _ h => h) (Or.inl ⟨by rfl, ?_⟩) hS ?_
      rotate_left
      · (intro w hSw; (try dsimp only at hSw); go_simp; try (with_reducible rfl))
      try simp only [Act.put, List.setIfInBounds_toArray]
      refine wpAnyH_take (i := 1) (v := ?_) rfl (by kernel_rfl) (by kernel_rfl) (by kernel_rfl) (fun _ _ _ h => h) (Or.inl ⟨by rfl, ?_⟩) hS ?_
      rotate_left
      · (intro w hSw; (try dsimp only at hSw); go_simp; try (with_reducible rfl))
      try simp only [Act.put]
      refine wpAnyH_take (i := 2) (v := ?_) rfl (by kernel_rfl) (by kernel_rfl) (by kernel_rfl) (fun _ _ _ h => h) (Or.inl ⟨by rfl, ?_⟩) hS ?_
      rotate_left
      · (intro w hSw; (try dsimp only at hSw); go_simp; try (with_reducible rfl))
      try simp only [Act.put]
      refine wpAnyH_take (i := 3) (v := ?_) rfl (by kernel_rfl) (by kernel_rfl) (by kernel_rfl) (fun _ _ _ h => h) (Or.inl ⟨by rfl, ?_⟩) hS ?_
      rotate_left
      · (intro w hSw; (try dsimp only at hSw); go_simp; try (with_reducible rfl))
      try simp only [Act.put]
      refine wpAnyH_take (i := 4) (v := ?_) rfl (by kernel_rfl) (by kernel_rfl) (by kernel_rfl) (fun _ _ _ h => h) (Or.inl ⟨by rfl, ?_⟩) hS ?_
      rotate_left
      · (intro w hSw; (try dsimp only at hSw); go_simp; try (with_reducible rfl))
      try simp only [Act.put]
      refine wpAnyH_take (i := 5) (v := ?_) rfl (by kernel_rfl) (by kernel_rfl) (by kernel_rfl) (fun _ _ _ h => h) (Or.inl ⟨by rfl, ?_⟩) hS ?_
      rotate_left
      · (intro w hSw; (try dsimp only at hSw); go_simp; try (with_reducible rfl))
      try simp only [Act.put]
      refine wpAnyH_take (i := 6) (v := ?_) rfl (by kernel_rfl) (by kernel_rfl) (by kernel_rfl) (fun _ _ _ h => h) (Or.inl ⟨by rfl, ?_⟩) hS ?_
      rotate_left
      · (intro w hSw; (try dsimp only at hSw); go_simp; try (with_reducible rfl))
      try simp only [Act.put]
      refine wpAnyH_take (i := 7) (v := ?_) rfl (by kernel_rfl) (by kernel_rfl) (by kernel_rfl) (fun _ _ _ h => h) (Or.inl ⟨by rfl, ?_⟩) hS ?_
      rotate_left
      · (intro w hSw; (try dsimp only at hSw); go_simp; try (with_reducible rfl))
      try simp only [Act.put]
      refine wpAnyH_take (i := 8) (v := ?_) rfl (by kernel_rfl) (by kernel_rfl) (by kernel_rfl) (fun _ _ _ h => h) (Or.inl ⟨by rfl, ?_⟩) hS ?_
      rotate_left
      · (intro w hSw; (try dsimp only at hSw); go_simp; try (with_reducible rfl))
      try simp only [Act.put]
      refine wpAnyH_take (i := 9) (v := ?_) rfl (by kernel_rfl) (by kernel_rfl) (by kernel_rfl) (fun _ _ _ h => h) (Or.inl ⟨by rfl, ?_⟩) hS ?_
      rotate_left
      · (intro w hSw; (try dsimp only at hSw); go_simp; try (with_reducible rfl))
      try simp only [Act.put]
      refine wpAnyH_take (i := 10) (v := ?_) rfl (by kernel_rfl) (by kernel_rfl) (by kernel_rfl) (fun _ _ _ h => h) (Or.inl ⟨by rfl, ?_⟩) hS ?_
      rotate_left
      · (intro w hSw; (try dsimp only at hSw); go_simp; try (with_reducible rfl))
      try simp only [Act.put]
      clear i1 i2 h15 hcx
      refine wpAnyH_ready (rs := [11]) (by kernel_rfl) (by simp) ?_
      refine (AllReadyH.cons rfl (fun K hK => ?_) AllReadyH.nil)
      go_simp
      refine hK.out _ _ trivial (fun hS => ?_)
      clear hK K
      try simp only [Act.put, List.setIfInBounds_toArray, List.set_cons_zero, List.set_cons_succ]
      refine wpAnyH_ready (rs := [12]) (by kernel_rfl) (by simp) ?_
      refine (AllReadyH.cons rfl (fun K hK => ?_) AllReadyH.nil)
      refine step_append_ex (by rfl) _ _ 48 (by rfl) _ (.slice (some ⟨wd.heap.size, 0, none⟩) 2 2) (by rfl) (by rfl) HA.out ?_
      rintro v5 w5 ⟨ho5, hb5⟩
      refine hK.out _ _ trivial (fun hS => ?_)
      clear hK K
      try simp only [Act.put, List.setIfInBounds_toArray]
      refine wpAnyH_ready (rs := [13]) (by kernel_rfl) (by simp) ?_
      refine (AllReadyH.cons rfl (fun K hK => ?_) AllReadyH.nil)
      go_simp
      refine hK.out _ _ trivial (fun hS => ?_)
      clear hK K
      try simp only [Act.put, List.setIfInBounds_toArray, List.set_cons_zero, List.set_cons_succ]
      refine wpAnyH_done (by kernel_rfl) ?_ _
      go_wp2
      go_roundw
      case rel => exact ⟨j + 1, by omega, by go_num, hb1.trans hb5, by rw [show 2 * (j + 1) = 2 * j + 2 by omega]; exact ho5⟩
      case measure => simp [intOf]; omega
    · obtain rfl : j = s.length := by omega
      have t1 : decide ((s.length : Int) < (x.size : Int)) = false := decide_eq_false (by omega)
      rw [List.take_length] at ho
      have hlen := HL.out s
      rw [← hlen] at ho
      have hC := conv_row ho
      obtain ⟨q, hq⟩ : ∃ q, S (Q.hex s) = q := ⟨_, rfl⟩
      rw [hq] at hC
      have HQq := Hid.mk' hq
      obtain ⟨ag, dg, hvg, _, _⟩ := owned_rows (P := Tryz.prog) ho
      clear HH HL ho hlen hvg hq hD
      go_wp2
      go_ret
      exact ⟨by rw [HQq.out]; rfl, hb⟩
end Go.Proofs.YtmepkmhfjgocgabGreatDoor
