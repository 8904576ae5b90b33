/-
  The contracts of the reference's body, All, Record, Encode.
-/
import Derived.Test.YtdoahehiocmonaaR1
namespace Go.Proofs.Ytdoahehiocmonaa
open Go.RowKit

theorem kinds_of {x : M.V3} (h : M.Ok x.1 x.2.1 x.2.2) : x.1 = 0 ∨ x.1 = 1 ∨ x.1 = 2 ∨ x.1 = 3 := by
  rcases h with ⟨h, _⟩ | ⟨h, _⟩ | ⟨h, _⟩ <;> omega

/-- A string's bytes in new memory. -/
theorem conv_back (w : World) (s : ByteArray) (hs : s.size ≤ 4096) : ∃ v' w', (convert 9 24 (.string s)).run Try.prog w = .ok v' w' ∧ Sees w' v' (M.bl s) ∧ Below w.heap.size w w' := by
  refine ⟨_, _, run_bytes_of_string w 9 24 5 s Try.underlying9 Try.underlying24 Try.underlying5, ?_, ((Below.refl _ _).drew).alloc (by simp) _⟩
  refine ⟨⟨some ⟨w.heap.size, 0, none⟩, _, by rw [M.bl_length], fun h => ⟨w.heap.size, 0, rfl, fun j hj => ?_⟩⟩, by rw [M.bl_length]; omega⟩
  rw [M.bl_length] at hj
  rw [Nat.zero_add]
  have := World.cell?_alloc_mark w.drew (bytesRow s (grownCap w s.size 0 5)) 5 ((bytesRow s (grownCap w s.size 0 5)).size, (bytesRow s (grownCap w s.size 0 5)).size + 1) j
  refine Eq.trans this ?_
  rw [bytesRow_at s _ j hj]
  congr 2
  have hj' : j < s.data.toList.length := by rw [Array.length_toList]; exact hj
  simp [M.bl, List.getD_eq_getElem?_getD]
  rw [Array.getElem?_eq_getElem hj]
  rfl

set_option maxRecDepth 100000 in
set_option maxHeartbeats 400000 in
theorem body_any (k n : Int) (s : ByteArray) (w : World) (hk : k = 0 ∨ k = 1 ∨ k = 2 ∨ k = 3) (hs : s.size ≤ 4096) :
    Calls Try.prog 35 #[.agg #[.int .i64 k, .int .i64 n, .string s]] w fun e w' => ∃ v', e = .returned v' ∧ Sees w' v' (M.body (k, n, s)) ∧ Below w.heap.size w w' := by
  by_cases h1 : k = 1
  · subst h1
    have eb : M.body (1, n, s) = M.be (M.isz (M.tyI n)) n := rfl
    have hc8 := M.isz_le (M.tyI n)
    have et : M.typ (1, n, s) = M.tyI n := rfl
    have ht := tyI_lt n
    rw [eb]
    clear eb
    obtain ⟨c, hc⟩ : ∃ c, M.isz (M.tyI n) = c := ⟨_, rfl⟩
    rw [hc] at hc8 ⊢
    go_enter Try.func35, Try.ntmps35
    go_wp2_with fail
    refine (kind_any 1 n s (.inr (.inl rfl)) hs _).mono ?_
    rintro e w2 ⟨rfl, hb2⟩
    rw [et]
    have k2 : w2.cell? ⟨w.heap.size, 1, none⟩ = some (.int .i64 n) := cell_on hb2 (by simp)
    have q2 : Below w.heap.size w w2 := ((Below.refl _ _).alloc (Nat.le_refl _) _).trans (hb2.mono (by simp))
    have hz2 : w.heap.size < w2.heap.size := by have := hb2.size; simp at this; omega
    clear hb2
    go_wp2_with (go_at_call 42; refine (size_any _ _).mono ?_; rintro e w' ⟨rfl, rfl⟩; rw [hc])
    go_loopw [3, 4] (fun t i wr => ∃ (j : Nat) (pre : List Nat), j ≤ c ∧ i = .int .i64 ((j : Int) - 1) ∧ M.be c n = pre ++ M.be j n ∧ wr.ownsRow w.heap.size 5 1 t pre.length (pre.map B8) ∧ Below w.heap.size w wr ∧ wr.cell? ⟨w.heap.size, 1, none⟩ = some (.int .i64 n) ∧ w.heap.size < wr.heap.size ∧ (∀ q, t.ownBlock = some q → q ≠ w.heap.size))
      (fun _ i _ => (intOf i + 1).toNat)
    case atStart =>
      exact ⟨c, [], Nat.le_refl _, rfl, rfl, World.ownsRow_nil _ _ _ _, q2, k2, hz2, fun q hq => by cases hq⟩
    case round =>
      obtain ⟨j, pre, hj, rfl, hpre, hown, hb, hcell, hsz, hq⟩ := hrel
      have hpl : pre.length + j = c := by
        have := congrArg List.length hpre
        simp [M.be_length] at this
        omega
      have HP := Hid.mk' hpre
      have hsz' := hb.size
      clear hpre
      cases j with
      | zero =>
        have HW := Hid.mk' hown
        clear hown hcell
        go_wp2
        go_ret
        have e0 : pre = M.be c n := by have := HP.out; simpa [M.be] using this.symm
        have hw := HW.out
        rw [e0] at hw
        exact ⟨_, rfl, owns_sees' hw (by rw [M.be_length]; omega), hb⟩
      | succ i =>
        have hs1 := src_one wr 5 24 (.int .u8 (n / 2 ^ (8 * i) % 256)) Try.underlying24 rfl
        have HA := Hid.mk' (append_row _ w.heap.size _ _ _ 24 _ 1 _ (hown.alloc _) hs1 (by omega) (by simp; omega))
        have hbk := hown.lt
        clear hown hs1
        go_wp2_with (at_builtin; refine wpList_append_run rfl _ _ 24 24 rfl _ _ rfl rfl HA.out ?_; rintro v2 w2 ⟨ho2, hg2, hl2⟩)
        go_roundw
        case rel =>
          have eb := be_cell n i
          refine ⟨i, pre ++ [(n / 256 ^ i % 256).toNat], by omega, by go_num, by rw [HP.out, M.be]; simp, ?_, (hb.alloc (by omega) _).grown hg2 (by simp; omega) (fun q hq' => (hbk q hq').1), ?_, ?_, ?_⟩
          · rw [eb] at ho2
            rw [List.length_append, List.map_append]
            exact ho2
          · refine hg2.cell (a := ⟨w.heap.size, 1, none⟩) (by rw [World.cell?_alloc_past _ _ _ hsz]; exact hcell) (fun q => hq _ q.symm rfl)
          · have := hg2.size
            simp at this
            omega
          · intro q h'
            rcases hl2 with h2 | h2
            · exact hq q (h2.symm.trans h')
            · rw [h2] at h'
              simp at h'
              omega
        case measure => simp [intOf]
  · have eb : M.body (k, n, s) = M.bl s := by unfold M.body; rw [if_neg h1]
    have tk : (k != 1) = true := by rw [bne_iff_ne]; exact h1
    obtain ⟨v1, w1, hr1, hs1, hb1⟩ := conv_back (w.alloc (.cells #[.int .i64 k, .int .i64 n, .string s] 47)) s hs
    rw [eb]
    have HS := Hid.mk' hs1
    clear eb h1 hs1
    go_enter Try.func35, Try.ntmps35
    go_wp2
    go_ret
    exact ⟨_, rfl, HS.out, ((Below.refl _ _).alloc (Nat.le_refl _) _).trans (hb1.mono (by simp))⟩

set_option maxRecDepth 100000 in
set_option maxHeartbeats 400000 in
theorem all_any (v : Value) (L : List M.V3) (w : World) (hv : Vals w v L) :
    Calls Try.prog 20 #[v] w fun e w' => e = .returned (.bool (M.allOk L)) ∧ Below w.heap.size w w' := by
  obtain ⟨⟨a, ca, rfl, ha⟩, hma⟩ := hv
  go_enter Try.func20, Try.ntmps20
  go_wp2
  go_loopw [3] (fun i wr => ∃ k : Nat, k ≤ L.length ∧ i = .int .i64 k ∧ Below w.heap.size w wr ∧ ∀ j, j < k → M.Ok (L.getD j M.z0).1 (L.getD j M.z0).2.1 (L.getD j M.z0).2.2) (fun i _ => L.length - (intOf i).toNat)
  case atStart => exact ⟨0, by omega, rfl, Below.refl _ _, fun j h => by omega⟩
  case round =>
    obtain ⟨k, hk, rfl, hb, hok⟩ := hrel
    have HK := Hid.mk' hok
    clear hok
    by_cases hlt : k < L.length
    · obtain ⟨b, o, rfl, hc⟩ := ha (by omega)
      obtain ⟨c1, c2, c3⟩ := hc k hlt
      have hmem := M.getD_mem L k hlt
      obtain ⟨⟨x1, x2, x3⟩, hx⟩ : ∃ x, L.getD k M.z0 = x := ⟨_, rfl⟩
      have HX := Hid.mk' hx
      rw [hx] at c1 c2 c3 hmem
      have d1 := cell_on hb c1
      have d2 := cell_on hb c2
      have d3 := cell_on hb c3
      have HM := Hid.mk' hmem
      clear hc ha c1 c2 c3 hx hmem
      simp only at d1 d2 d3
      by_cases hok : M.Ok x1 x2 x3
      · have HO := Hid.mk' hok
        have dd : decide (M.Ok x1 x2 x3) = true := decide_eq_true hok
        clear hok
        go_wp2_with (go_at_call 21; refine (may _ _ _ _).mono ?_; rintro e w' ⟨rfl, rfl⟩; rw [dd])
        go_roundw
        case rel =>
          refine ⟨k + 1, by omega, by go_num, hb.alloc hb.size _, fun j hj => ?_⟩
          by_cases he : j = k
          · subst he
            rw [HX.out]; exact HO.out
          · exact HK.out j (by omega)
        case measure => simp [intOf]; omega
      · have he : M.allOk L = false := by
          unfold M.allOk
          rw [List.all_eq_false]
          exact ⟨_, HM.out, by simpa using hok⟩
        have dd : decide (M.Ok x1 x2 x3) = false := decide_eq_false hok
        have HE := Hid.mk' he
        clear hok he
        go_wp2_with (go_at_call 21; refine (may _ _ _ _).mono ?_; rintro e w' ⟨rfl, rfl⟩; rw [dd])
        go_ret
        rw [HE.out]
        exact ⟨rfl, hb.alloc hb.size _⟩
    · have hao : M.allOk L = true := List.all_eq_true.2 fun x hx => by
        obtain ⟨j, hj, rfl⟩ := List.getElem_of_mem hx
        have := HK.out j (by omega)
        rw [show L.getD j M.z0 = L[j] by simp [List.getD_eq_getElem?_getD, hj]] at this
        exact decide_eq_true this
      have HE := Hid.mk' hao
      clear hao
      go_wp2
      go_ret
      rw [HE.out]
      exact ⟨rfl, hb⟩

set_option maxRecDepth 100000 in
set_option maxHeartbeats 1000000 in
theorem Record_any (v : Value) (L : List M.V3) (w : World) (hv : Vals w v L) (hO : ∀ x ∈ L, M.OkV x) (h17 : L.length ≤ 17) :
    Calls Try.prog 23 #[v] w fun e w' => ∃ v', e = .returned v' ∧ w'.ownsRow w.heap.size 5 1 v' (M.record L).length ((M.record L).map B8) ∧ Below w.heap.size w w' := by
  obtain ⟨⟨a, ca, rfl, ha⟩, hma⟩ := hv
  have HA := Hid.mk' hO
  clear hO
  go_enter Try.func23, Try.ntmps23
  go_wp2_with fail
  refine (rput_any _ (by omega) (by omega) _).mono ?_
  rintro e w1 ⟨v1, rfl, ho1, hb1⟩
  rw [Int.toNat_natCast] at ho1
  have ho1' : w1.ownsRow w.heap.size 5 1 v1 (M.bytes L.length).length ((M.bytes L.length).map B8) := by
    rw [M.bytes_length]; exact ho1
  clear ho1
  go_wp2
  go_loopw [3, 4] (fun t i wr => ∃ k : Nat, k ≤ L.length ∧ i = .int .i64 k ∧ Below w.heap.size w wr ∧ wr.ownsRow w.heap.size 5 1 t (M.bytes L.length ++ M.heads (L.take k)).length ((M.bytes L.length ++ M.heads (L.take k)).map B8)) (fun _ i _ => L.length - (intOf i).toNat)
  case atStart => exact ⟨0, by omega, rfl, hb1, by simpa [M.heads] using ho1'⟩
  case round =>
    obtain ⟨k2, hk2, rfl, hb2, ho2⟩ := hrel
    have hsz2 := hb2.size
    have hl9 : (M.bytes L.length ++ M.heads (L.take k2)).length ≤ 1000 := by
      have h1 := M.size_le L.length
      have h2 := M.heads_le (L.take k2)
      rw [List.length_append, M.bytes_length]
      rw [List.length_take] at h2
      omega
    have hbk := ho2.lt
    by_cases hlt2 : k2 < L.length
    · obtain ⟨b, o, rfl, hc⟩ := ha (by omega)
      obtain ⟨c1, c2, c3⟩ := hc k2 hlt2
      have hmem := M.getD_mem L k2 hlt2
      have HN := Hid.mk' (M.heads_next L k2 hlt2)
      obtain ⟨⟨x1, x2, x3⟩, hx⟩ : ∃ x, L.getD k2 M.z0 = x := ⟨_, rfl⟩
      have HX := Hid.mk' hx
      rw [hx] at c1 c2 c3 hmem
      have d1 := cell_on hb2 c1
      have d2 := cell_on hb2 c2
      have d3 := cell_on hb2 c3
      have hokx := HA.out _ hmem
      have hs4 := M.size_le4096 hokx.1
      have hkk := kinds_of hokx.1
      have htl := M.typ_lt (x1, x2, x3) hokx
      clear hc ha c1 c2 c3 hx hmem hokx
      simp only at d1 d2 d3 hs4 hkk
      have HO2 := Hid.mk' ho2
      clear ho2
      generalize hlist : M.bytes L.length ++ M.heads (L.take k2) = bs at *
      go_wp2_with fail
      refine (kind_any _ _ _ hkk hs4 _).mono ?_
      rintro e w3 ⟨rfl, hb3⟩
      go_wp2_with fail
      refine (rput_any _ (by omega) (by omega) _).mono ?_
      rintro e w4 ⟨v4, rfl, ho4, hb4⟩
      rw [Int.toNat_natCast] at ho4
      have hq4 : Below wr.heap.size wr w4 := hb3.trans (hb4.mono hb3.size)
      have hz4 := hq4.size
      have s4 := owns_sees' ho4 (by have := M.size_le (M.typ (x1, x2, x3)); omega)
      have HAp := Hid.mk' (append_row w4 w.heap.size _ _ _ 24 _ _ _ (owns_keep HO2.out hq4) (src_sees s4) (by rw [M.bytes_length]; have := M.size_le (M.typ (x1, x2, x3)); omega) (by omega))
      have HB4 : Hid (Below w.heap.size w w4) := hb2.trans (hq4.mono hsz2)
      clear ho4 hb4 hb3 hq4 s4 HO2
      go_wp2_with (at_builtin; refine wpList_append_run rfl _ _ 24 24 rfl _ _ rfl rfl HAp.out ?_; rintro v5 w5 ⟨ho5, hg5, hl5⟩)
      go_roundw
      case rel =>
        refine ⟨k2 + 1, by omega, by go_num, HB4.out.grown hg5 (by omega) (fun q hq => (hbk q hq).1), ?_⟩
        rw [HN.out, HX.out, ← List.append_assoc, hlist, List.length_append, List.map_append]
        exact ho5
      case measure => simp [intOf]; omega
    · have e2 : k2 = L.length := by omega
      have ho3 := ho2
      rw [e2, List.take_length] at ho3
      clear ho2 hbk e2
      go_wp2
      go_loopw [3, 5] (fun t i wr => ∃ k : Nat, k ≤ L.length ∧ i = .int .i64 k ∧ Below w.heap.size w wr ∧ wr.ownsRow w.heap.size 5 1 t (M.bytes L.length ++ M.heads L ++ M.bodies (L.take k)).length ((M.bytes L.length ++ M.heads L ++ M.bodies (L.take k)).map B8)) (fun _ i _ => L.length - (intOf i).toNat)
      case atStart => exact ⟨0, by omega, rfl, hb2, by simpa [M.bodies] using ho3⟩
      case round =>
        obtain ⟨k3, hk3, rfl, hb3, ho3⟩ := hrel
        have hsz3 := hb3.size
        have hbk3 := ho3.lt
        have hl9 : (M.bytes L.length ++ M.heads L ++ M.bodies (L.take k3)).length ≤ 1000000 := by
          have h1 := M.size_le L.length
          have h2 := M.heads_le L
          have h3 := M.bodies_le (L.take k3) (fun x hx => (HA.out x (List.mem_of_mem_take hx)).1)
          rw [List.length_append, List.length_append, M.bytes_length]
          rw [List.length_take] at h3
          omega
        by_cases hlt3 : k3 < L.length
        · obtain ⟨b, o, rfl, hc⟩ := ha (by omega)
          obtain ⟨c1, c2, c3⟩ := hc k3 hlt3
          have hmem := M.getD_mem L k3 hlt3
          have HN := Hid.mk' (M.bodies_next L k3 hlt3)
          obtain ⟨⟨x1, x2, x3⟩, hx⟩ : ∃ x, L.getD k3 M.z0 = x := ⟨_, rfl⟩
          have HX := Hid.mk' hx
          rw [hx] at c1 c2 c3 hmem
          have d1 := cell_on hb3 c1
          have d2 := cell_on hb3 c2
          have d3 := cell_on hb3 c3
          have hokx := HA.out _ hmem
          have hs4 := M.size_le4096 hokx.1
          have hkk := kinds_of hokx.1
          have hbl := M.body_le hokx.1
          clear hc ha c1 c2 c3 hx hmem hokx
          simp only at d1 d2 d3 hs4 hkk
          have HO3 := Hid.mk' ho3
          clear ho3
          generalize hlist : M.bytes L.length ++ M.heads L ++ M.bodies (L.take k3) = bs at *
          go_wp2_with fail
          refine (body_any _ _ _ _ hkk hs4).mono ?_
          rintro e w4 ⟨v4, rfl, s4, hb4⟩
          have hz4 := hb4.size
          have HAp := Hid.mk' (append_row w4 w.heap.size _ _ _ 24 _ _ _ (owns_keep HO3.out hb4) (src_sees s4) (by omega) (by omega))
          have HB4 : Hid (Below w.heap.size w w4) := hb3.trans (hb4.mono hsz3)
          clear hb4 HO3 s4
          go_wp2_with (at_builtin; refine wpList_append_run rfl _ _ 24 24 rfl _ _ rfl rfl HAp.out ?_; rintro v5 w5 ⟨ho5, hg5, hl5⟩)
          go_roundw
          case rel =>
            refine ⟨k3 + 1, by omega, by go_num, HB4.out.grown hg5 (by omega) (fun q hq => (hbk3 q hq).1), ?_⟩
            rw [HN.out, HX.out, ← List.append_assoc, hlist, List.length_append, List.map_append]
            exact ho5
          case measure => simp [intOf]; omega
        · have e3 : k3 = L.length := by omega
          have ho4 := ho3
          rw [e3, List.take_length, List.append_assoc] at ho4
          have er : M.bytes L.length ++ (M.heads L ++ M.bodies L) = M.record L := rfl
          rw [er] at ho4
          have HO4 := Hid.mk' ho4
          clear ho3 ha e3 ho4
          go_wp2
          go_ret
          exact ⟨_, rfl, HO4.out, hb3⟩

set_option maxRecDepth 100000 in
set_option maxHeartbeats 1000000 in
theorem rEncode_any (v : Value) (L : List M.V3) (w : World) (hv : Vals w v L) (hR : ∀ x ∈ L, M.R x.2.1) :
    Calls Try.prog 9 #[v] w fun e w' => ∃ v', e = .returned (.tuple #[v', .int .i64 (M.enc L)]) ∧ w'.ownsRow w.heap.size 5 1 v' (M.encB L).length ((M.encB L).map B8) ∧ Below w.heap.size w w' := by
  have HV := Hid.mk' hv
  obtain ⟨⟨a, ca, rfl, ha⟩, hma⟩ := hv
  clear ha
  go_enter Try.func9, Try.ntmps9
  go_wp2_with fail
  refine (all_any _ L _ HV.out).mono ?_
  rintro e w1 ⟨rfl, hb1⟩
  cases hall : M.allOk L with
  | false =>
    have he : M.enc L = 1 := by unfold M.enc; rw [if_pos hall]
    have HE := Hid.mk' he
    clear he
    go_wp2
    go_ret2
    have eB : M.encB L = [] := by unfold M.encB; rw [HE.out]; rfl
    rw [HE.out, eB]
    exact ⟨_, ret_ve rfl, World.ownsRow_nil _ _ _ _, hb1⟩
  | true =>
    have hO : ∀ x ∈ L, M.OkV x := fun x hx => ⟨M.allOk_true hall x hx, hR x hx⟩
    by_cases h17 : 17 < L.length
    · have he : M.enc L = 7 := by unfold M.enc; rw [if_neg (by rw [hall]; simp), if_pos h17]
      have HE := Hid.mk' he
      clear he
      go_wp2
      go_ret2
      have eB : M.encB L = [] := by unfold M.encB; rw [HE.out]; rfl
      rw [HE.out, eB]
      exact ⟨_, ret_ve rfl, World.ownsRow_nil _ _ _ _, hb1⟩
    · go_wp2_with fail
      refine (Record_any _ L _ (HV.out.below hb1) hO (by omega)).mono ?_
      rintro e w2 ⟨v2, rfl, ho2, hb2⟩
      have q2 : Below w.heap.size w w2 := hb1.trans (hb2.mono hb1.size)
      have ho2' : w2.ownsRow w.heap.size 5 1 v2 (M.record L).length ((M.record L).map B8) := owns_base ho2 hb1.size
      obtain ⟨a9, c9, rfl, _⟩ := owned_rows (P := Try.prog) ho2
      clear ho2
      have HO2 := Hid.mk' ho2'
      clear ho2'
      by_cases h14 : 16384 < (M.record L).length
      · have he : M.enc L = 7 := by unfold M.enc; rw [if_neg (by rw [hall]; simp), if_neg h17, if_pos h14]
        have HE := Hid.mk' he
        clear he
        go_wp2
        go_ret2
        have eB : M.encB L = [] := by unfold M.encB; rw [HE.out]; rfl
        rw [HE.out, eB]
        exact ⟨_, ret_ve rfl, World.ownsRow_nil _ _ _ _, q2⟩
      · have he : M.enc L = 0 := by unfold M.enc; rw [if_neg (by rw [hall]; simp), if_neg h17, if_neg h14]
        have HE := Hid.mk' he
        clear he
        go_wp2
        go_ret2
        rw [(M.enc_ok HE.out).2.2.2, HE.out]
        exact ⟨_, ret_ve rfl, HO2.out, q2⟩
end Go.Proofs.Ytdoahehiocmonaa
