/-
  The parser's call take.
-/
import Derived.Test.YtmepkmhfjgocgaaGreatDoorZb
import Derived.Test.YtmepkmhfjgocgaaGreatDoorShelf
namespace Go.Proofs.YtmepkmhfjgocgaaGreatDoor
open Go.ChangeShapes Go.WideShapes Go.ChangeAt Go.RowKit Go.Deep

theorem slice_tok (a : Option Addr) (n c k : Nat) (l : Int) (hl : l = (k : Int)) (hk : k ≤ n) (a2 : Option Addr) (ha2 : (if c = k then a else Option.map (fun x => x.add (k * 3)) a) = a2) (n2 c2 : Nat) (hn2 : n - k = n2) (hc2 : c - k = c2) (w : World) : (Instr.slice 60 (.slice a n c) (some (.int .i64 l)) none none).run Tryz.prog w = .ok (.slice a2 n2 c2) w := by
  subst hl hn2 hc2 ha2
  rw [run_slice_l (ht := by kernel_rfl) (h0 := by omega) (h1 := by omega), show ((sizeOf (Tryz.prog.elem 60)).run Tryz.prog w) = .ok 3 w by kernel_rfl]
  simp [sliced, Result.andThen]

/-- The words of a row, as they are read. -/
theorem fields_any (X : List UInt8) (ha : ∀ c ∈ X, c.toNat < 128) (hl : X.length < 100000) (w : World) (hg : Gb w) :
    Calls Tryz.prog 78 #[.string (S X)] w fun e w' => e = .returned (.slice (some ⟨w.heap.size, 0, none⟩) (Lib.fields X).length (Lib.fields X).length) ∧ w' = w.alloc (.cells ((Lib.fields X).map fun l => Value.string (S l)).toArray 9) := by
  have h := fields_of (S X) w (by rw [S_size]; omega) (fun j b hj => ha b (List.mem_of_getElem? (by rwa [S_data] at hj))) hg.2.1
  rw [S_data] at h
  exact h

set_option maxRecDepth 100000 in
set_option maxHeartbeats 1000000 in
theorem take_any {w : World} {p : Nat} {R : List L.Tok} {d m : Int} (X : List UInt8) (ha : ∀ c ∈ X, c.toNat < 128) (hX : X.length < 1000) (h : PS w p R d m) :
    Calls Tryz.prog 30 #[.pointer (some ⟨p, 0, none⟩), .string (S X)] w fun e w' => Fr [p] w w' ∧ ((Z.tk X R = none ∧ e = .returned (.bool false) ∧ PS w' p R d m) ∨ ∃ R1, Z.tk X R = some R1 ∧ e = .returned (.bool true) ∧ PS w' p R1 d m) := by
  have HF := Hid.mk' (fields_any X ha (by omega) w h.1)
  obtain ⟨hg, h7, v, hb, hv⟩ := h
  obtain ⟨a, c, rfl, hl⟩ := hv.len
  obtain ⟨c0, c1, c2, fz, hlt⟩ := hb.cells
  unfold Z.tk
  have HP : Hid (PS w p R d m) := ⟨hg, h7, _, hb, hv⟩
  have HV := Hid.mk' hv
  generalize Lib.fields X = K at HF ⊢
  generalize S X = x at HF ⊢
  have hKR := Nat.lt_or_ge R.length K.length
  clear hb hv hg ha hX
  rcases hKR with hKR | hKR
  · have HN := Hid.mk' (Z.tkF_short hKR)
    go_enter Tryz.func30, Tryz.ntmps30
    go_wp2_with fail
    refine (HF.out).mono ?_
    rintro e w1 ⟨rfl, rfl⟩
    go_wp2
    go_ret
    exact ⟨Fr.of_alloc _ _, .inl ⟨HN.out, rfl, HP.out.keep (Fr.of_alloc _ _)⟩⟩
  have q17 : decide (R.length < K.length) = false := decide_eq_false (by omega)
  have q18 : decide ((R.length : Int) < (K.length : Int)) = false := decide_eq_false (by omega)
  go_enter Tryz.func30, Tryz.ntmps30
  go_wp2_with fail
  refine (HF.out).mono ?_
  rintro e w1 ⟨rfl, rfl⟩
  have hb1 : Below w.heap.size w (w.alloc (.cells (K.map fun l => Value.string (S l)).toArray 9)) := (Below.refl _ _).alloc (Nat.le_refl _) _
  have hk0 : ∀ k s, K[k]? = some s → (w.alloc (.cells (K.map fun l => Value.string (S l)).toArray 9)).cell? ⟨w.heap.size, k, none⟩ = some (.string (S s)) := by
    intro k s hs
    rw [cell_of_row _ _ _ _ _ _ (heap_alloc_new w _)]
    simp [hs]
  have hz : w.heap.size < (w.alloc (.cells (K.map fun l => Value.string (S l)).toArray 9)).heap.size := by simp
  generalize w.alloc (.cells (K.map fun l => Value.string (S l)).toArray 9) = w1 at hb1 hk0 hz
  have HB := Hid.mk' hb1
  have d0 := cellB hb1 c0
  have df : ∀ j, w1.frozen? ⟨p, j, none⟩ = false := fun j => (World.frozen?_of_block (a := ⟨p, j, none⟩) (hb1.block p hlt)).trans (fz j)
  clear c0 c1 c2 fz hb1
  go_wp2
  go_loopw [6, 7, 20] (fun _ _ i wr => ∃ k : Nat, k ≤ K.length ∧ i = .int .i64 k ∧ Below w1.heap.size w1 wr ∧ Hid (Z.tkF K R = Z.tkF (K.drop k) (R.drop k))) (fun _ _ i _ => K.length - (intOf i).toNat)
  case atStart => exact ⟨0, by omega, rfl, Below.refl _ _, Hid.mk' rfl⟩
  case round =>
    obtain ⟨k, hk, rfl, hb, HE⟩ := hrel
    have hsz := hb.size
    have e0 := cellB hb d0
    have ef : ∀ j, wr.frozen? ⟨p, j, none⟩ = false := fun j => (hb.frozen (p := ⟨p, j, none⟩) (show p < w1.heap.size by omega)).trans (df j)
    by_cases hlt2 : k < K.length
    · obtain ⟨s, hs⟩ : ∃ s, K[k]? = some s := ⟨_, List.getElem?_eq_getElem hlt2⟩
      obtain ⟨t, ht⟩ : ∃ t, R[k]? = some t := ⟨_, List.getElem?_eq_getElem (by omega)⟩
      have HT := Hid.mk' (Z.tkF_drop hs ht)
      obtain ⟨g, o, rfl, _, v1, v2, v3⟩ := HV.out.at k t ht
      have v1 := cellB hb (cellB HB.out v1)
      have v2 := cellB hb (cellB HB.out v2)
      have v3 := cellB hb (cellB HB.out v3)
      have s1 := cellB hb (hk0 k s hs)
      have HS := Hid.mk' (stands_is t s)
      obtain ⟨t1, t2, t3⟩ := t
      simp only at v1 v2 v3
      have hkR : (k : Int) < (R.length : Int) := by omega
      obtain ⟨b, hbb⟩ : ∃ b, Z.stands (t1, t2, t3) s = b := ⟨_, rfl⟩
      rw [hbb] at HS HT
      simp only at HS
      clear hs ht hk0 hbb
      generalize S t2 = s2 at v2 HS
      generalize S s = sv at s1 HS
      go_wp2_with fail
      refine (HS.out _).mono ?_
      rintro e w2 ⟨rfl, rfl⟩
      cases b
      · go_wp2
        go_ret
        have hB := (HB.out.trans (hb.mono (Nat.le_of_lt hz))).alloc (by omega) (.cells #[.int .i64 t1, .string s2, .int .i64 t3] 126)
        exact ⟨Fr.of_below hB, .inl ⟨by rw [HE.out, HT.out]; rfl, rfl, HP.out.keep (Fr.of_below hB)⟩⟩
      · go_wp2
        go_roundw
        case rel => exact ⟨k + 1, by omega, by go_num, hb.alloc hsz _, Hid.mk' (HE.out.trans (by rw [HT.out]; rfl))⟩
        case measure => simp [intOf]; omega
    · obtain rfl : k = K.length := by omega
      obtain ⟨a2, ha2⟩ : ∃ a2, (if c = K.length then a else Option.map (fun x => x.add (K.length * 3)) a) = a2 := ⟨_, rfl⟩
      obtain ⟨n2, hn2⟩ : ∃ n2, R.length - K.length = n2 := ⟨_, rfl⟩
      obtain ⟨c2, hc2⟩ : ∃ c2, c - K.length = c2 := ⟨_, rfl⟩
      have hs1 := slice_tok a R.length c K.length (K.length : Int) rfl hKR a2 ha2 n2 c2 hn2 hc2
      have HD := Hid.mk' (HV.out.drop K.length hKR a2 ha2)
      rw [hn2, hc2] at HD
      clear ha2 hn2 hc2
      go_wp2
      go_ret
      have hB := HB.out.trans (hb.mono (Nat.le_of_lt hz))
      obtain ⟨r1, r2⟩ := (HP.out.keep (Fr.of_below hB)).rest (HD.out.fr (fs := []) (Fr.of_below hB) (fun k hk => by cases hk))
      exact ⟨Fr.trans (Fr.of_below hB) r2 (by simp), .inr ⟨_, by rw [HE.out, List.drop_length]; rfl, rfl, r1⟩⟩
end Go.Proofs.YtmepkmhfjgocgaaGreatDoor
