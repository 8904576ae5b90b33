/-
  The contract of record.Encode; what a slice shows of values.
-/
import Derived.Test.YtdoahehiocmonaaT3
namespace Go.Proofs.Ytdoahehiocmonaa
open Go.RowKit

namespace M
def z0 : V3 := (0, 0, ⟨#[]⟩)
/-- Whether all are values; what Encode tells: the error's number, the bytes. -/
def allOk (L : List V3) : Bool := L.all fun x => decide (Ok x.1 x.2.1 x.2.2)
def enc (L : List V3) : Nat := if allOk L = false then 1 else if 17 < L.length then 7 else if 16384 < (record L).length then 7 else 0
def encB (L : List V3) : List Nat := if enc L = 0 then record L else []

theorem allOk_true {L : List V3} (h : allOk L = true) : ∀ x ∈ L, Ok x.1 x.2.1 x.2.2 := by
  intro x hx
  exact of_decide_eq_true (List.all_eq_true.1 h x hx)
theorem enc_ok {L : List V3} (h : enc L = 0) : allOk L = true ∧ L.length ≤ 17 ∧ (record L).length ≤ 16384 ∧ encB L = record L := by
  have e : encB L = record L := by unfold encB; rw [if_pos h]
  unfold enc at h
  split at h
  · cases h
  · rename_i h1
    split at h
    · cases h
    · split at h
      · cases h
      · exact ⟨by simpa using h1, by omega, by omega, e⟩

theorem take_getD (L : List V3) (k : Nat) (h : k < L.length) : L.take (k + 1) = L.take k ++ [L.getD k z0] := by
  rw [List.take_succ_eq_append_getElem h]
  simp [List.getD_eq_getElem?_getD, h]
theorem getD_mem (L : List V3) (k : Nat) (h : k < L.length) : L.getD k z0 ∈ L := by
  rw [show L.getD k z0 = L[k] by simp [List.getD_eq_getElem?_getD, h]]
  exact List.getElem_mem h
theorem heads_next (L : List V3) (k : Nat) (h : k < L.length) : heads (L.take (k + 1)) = heads (L.take k) ++ bytes (typ (L.getD k z0)) := by
  rw [take_getD L k h]; simp [heads]
theorem bodies_next (L : List V3) (k : Nat) (h : k < L.length) : bodies (L.take (k + 1)) = bodies (L.take k) ++ body (L.getD k z0) := by
  rw [take_getD L k h]; simp [bodies]
theorem body_le {x : V3} (h : Ok x.1 x.2.1 x.2.2) : (body x).length ≤ 4096 := by
  unfold body
  split
  · rw [be_length]; have := isz_le (tyI x.2.1); omega
  · rw [bl_length]; rcases h with ⟨_, _, h⟩ | ⟨_, h⟩ | ⟨_, _, h⟩ <;> omega
theorem size_le4096 {x : V3} (h : Ok x.1 x.2.1 x.2.2) : x.2.2.size ≤ 4096 := by rcases h with ⟨_, _, h⟩ | ⟨_, h⟩ | ⟨_, _, h⟩ <;> omega
theorem heads_le (L : List V3) : (heads L).length ≤ 9 * L.length := by
  induction L with
  | nil => simp [heads]
  | cons x L ih =>
    have e : heads (x :: L) = bytes (typ x) ++ heads L := rfl
    have := size_le (typ x)
    rw [e, List.length_append, bytes_length, List.length_cons]
    omega
theorem bodies_le (L : List V3) (h : ∀ x ∈ L, Ok x.1 x.2.1 x.2.2) : (bodies L).length ≤ 4096 * L.length := by
  induction L with
  | nil => simp [bodies]
  | cons x L ih =>
    have e : bodies (x :: L) = body x ++ bodies L := rfl
    have h1 := body_le (h x (by simp))
    have h2 := ih (fun y hy => h y (by simp [hy]))
    rw [e, List.length_append, List.length_cons]
    omega
end M

/-- The slice value v shows the values of L. -/
def Vals (w : World) (v : Value) (L : List M.V3) : Prop :=
  (∃ a cap, v = .slice a L.length cap ∧ (1 ≤ L.length → ∃ b o, a = some ⟨b, o, none⟩ ∧ ∀ j, j < L.length →
    w.cell? ⟨b, o + j * 3, none⟩ = some (.int .i64 (L.getD j M.z0).1) ∧ w.cell? ⟨b, o + j * 3 + 1, none⟩ = some (.int .i64 (L.getD j M.z0).2.1) ∧ w.cell? ⟨b, o + j * 3 + 2, none⟩ = some (.string (L.getD j M.z0).2.2))) ∧ L.length ≤ 9223372036854775807

theorem Vals.below {w w' : World} {v : Value} {L : List M.V3} (h : Vals w v L) (hb : Below w.heap.size w w') : Vals w' v L := by
  obtain ⟨⟨a, cap, rfl, hc⟩, hm⟩ := h
  refine ⟨⟨a, cap, rfl, fun h1 => ?_⟩, hm⟩
  obtain ⟨b, o, rfl, hj⟩ := hc h1
  exact ⟨b, o, rfl, fun j hlt => ⟨cell_on hb (hj j hlt).1, cell_on hb (hj j hlt).2.1, cell_on hb (hj j hlt).2.2⟩⟩

theorem ret_ve {v : Value} {n m : Int} (h : n = m) : Ending.returned (.tuple #[v, .int .i64 n]) = .returned (.tuple #[v, .int .i64 m]) := by rw [h]

theorem put_len (n : Nat) : ((M.bytes n).map B8).length = M.size n := by rw [List.length_map, M.bytes_length]

set_option maxRecDepth 100000 in
set_option maxHeartbeats 1000000 in
theorem Encode_any (v : Value) (L : List M.V3) (w : World) (hv : Vals w v L) (hR : ∀ x ∈ L, M.R x.2.1) :
    Calls Try.prog 11 #[v] w fun e w' => ∃ v', e = .returned (.tuple #[v', .int .i64 (M.enc L)]) ∧ w'.ownsRow w.heap.size 5 1 v' (M.encB L).length ((M.encB L).map B8) ∧ Below w.heap.size w w' := by
  obtain ⟨⟨a, ca, rfl, ha⟩, hma⟩ := hv
  go_enter Try.func11, Try.ntmps11
  go_wp2
  go_loopw [14] (fun i wr => ∃ k : Nat, k ≤ L.length ∧ i = .int .i64 k ∧ Below w.heap.size w wr ∧ ∀ j, j < k → M.Ok (L.getD j M.z0).1 (L.getD j M.z0).2.1 (L.getD j M.z0).2.2) (fun i _ => L.length - (intOf i).toNat)
  case atStart => exact ⟨0, by omega, rfl, Below.refl _ _, fun j h => by omega⟩
  case round =>
    obtain ⟨k, hk, rfl, hb, hok⟩ := hrel
    have HK := Hid.mk' hok
    clear hok
    by_cases hlt : k < L.length
    · obtain ⟨b, o, rfl, hc⟩ := ha (by omega)
      obtain ⟨c1, c2, c3⟩ := hc k hlt
      have hmem := M.getD_mem L k hlt
      obtain ⟨⟨x1, x2, x3⟩, hx⟩ : ∃ x, L.getD k M.z0 = x := ⟨_, rfl⟩
      have HX := Hid.mk' hx
      rw [hx] at c1 c2 c3 hmem
      have d1 := cell_on hb c1
      have d2 := cell_on hb c2
      have d3 := cell_on hb c3
      have hbl := World.block_lt_of_cell? _ _ d1
      have HM := Hid.mk' hmem
      clear hc ha c1 c2 c3 hx hmem
      simp only at d1 d2 d3
      by_cases hok : M.Ok x1 x2 x3
      · have e1 : err1 x1 x2 x3 = 0 := by simp [err1, hok]
        have HO := Hid.mk' hok
        clear hok
        go_wp2_with (go_at_call 24; refine (check _ _ _ _).mono ?_; rintro e w' ⟨rfl, rfl⟩; rw [e1])
        go_roundw
        case rel =>
          refine ⟨k + 1, by omega, by go_num, ((hb.alloc hb.size _).alloc (by have := hb.size; simp; omega) _).alloc (by have := hb.size; simp; omega) _, fun j hj => ?_⟩
          by_cases he : j = k
          · subst he
            rw [HX.out]; exact HO.out
          · exact HK.out j (by omega)
        case measure => simp [intOf]; omega
      · have e1 : err1 x1 x2 x3 = 1 := by simp [err1, hok]
        have he : M.enc L = 1 := by
          unfold M.enc
          rw [if_pos]
          unfold M.allOk
          rw [List.all_eq_false]
          exact ⟨_, HM.out, by simpa using hok⟩
        have HE := Hid.mk' he
        clear hok he
        go_wp2_with (go_at_call 24; refine (check _ _ _ _).mono ?_; rintro e w' ⟨rfl, rfl⟩; rw [e1])
        go_ret2
        have eB : M.encB L = [] := by unfold M.encB; rw [HE.out]; rfl
        rw [HE.out, eB]
        exact ⟨_, ret_ve rfl, World.ownsRow_nil _ _ _ _, ((hb.alloc hb.size _).alloc (by have := hb.size; simp; omega) _).alloc (by have := hb.size; simp; omega) _⟩
    · have hall : ∀ j, j < L.length → M.Ok (L.getD j M.z0).1 (L.getD j M.z0).2.1 (L.getD j M.z0).2.2 := fun j hj => HK.out j (by omega)
      have hall' : ∀ x ∈ L, M.Ok x.1 x.2.1 x.2.2 := by
        intro x hx
        obtain ⟨j, hj, rfl⟩ := List.getElem_of_mem hx
        have := hall j hj
        rwa [show L.getD j M.z0 = L[j] by simp [List.getD_eq_getElem?_getD, hj]] at this
      have hao : M.allOk L = true := List.all_eq_true.2 fun x hx => decide_eq_true (hall' x hx)
      have HA := Hid.mk' hall'
      have HAO := Hid.mk' hao
      clear hall hall' hao HK
      by_cases h17 : 17 < L.length
      · have he : M.enc L = 7 := by unfold M.enc; rw [if_neg (by rw [HAO.out]; simp), if_pos h17]
        have HE := Hid.mk' he
        clear he
        go_wp2
        go_ret2
        have eB : M.encB L = [] := by unfold M.encB; rw [HE.out]; rfl
        rw [HE.out, eB]
        exact ⟨_, ret_ve rfl, World.ownsRow_nil _ _ _ _, hb⟩
      · have hsz := hb.size
        go_wp2_with fail
        refine (put_any _ (by omega) (by omega) _).mono ?_
        rintro e w1 ⟨v1, rfl, ho1, hb1⟩
        rw [Int.toNat_natCast] at ho1
        have q1 : Below w.heap.size w w1 := hb.trans (hb1.mono hsz)
        have ho1' : w1.ownsRow w.heap.size 5 1 v1 (M.bytes L.length).length ((M.bytes L.length).map B8) := by
          refine ⟨by simp, ?_⟩
          rcases ho1.2 with ⟨h, h0⟩ | ⟨g, cap, cur, h1, h2, h3⟩
          · exact .inl ⟨h, by rw [M.bytes_length]; exact h0⟩
          · rw [M.bytes_length]
            exact .inr ⟨g, cap, cur, h1, by omega, h3⟩
        clear ho1 hb1
        go_wp2
        go_loopw [7, 33] (fun t i wr => ∃ k : Nat, k ≤ L.length ∧ i = .int .i64 k ∧ Below w.heap.size w wr ∧ wr.ownsRow w.heap.size 5 1 t (M.bytes L.length ++ M.heads (L.take k)).length ((M.bytes L.length ++ M.heads (L.take k)).map B8)) (fun _ i _ => L.length - (intOf i).toNat)
        case atStart => exact ⟨0, by omega, rfl, q1, by simpa [M.heads] using ho1'⟩
        case round =>
          obtain ⟨k2, hk2, rfl, hb2, ho2⟩ := hrel
          have hsz2 := hb2.size
          have hl9 : (M.bytes L.length ++ M.heads (L.take k2)).length ≤ 1000 := by
            have h1 := M.size_le L.length
            have h2 := M.heads_le (L.take k2)
            rw [List.length_append, M.bytes_length]
            rw [List.length_take] at h2
            omega
          have hbk := ho2.lt
          by_cases hlt2 : k2 < L.length
          · obtain ⟨b, o, rfl, hc⟩ := ha (by omega)
            obtain ⟨c1, c2, c3⟩ := hc k2 hlt2
            have hmem := M.getD_mem L k2 hlt2
            have HN := Hid.mk' (M.heads_next L k2 hlt2)
            obtain ⟨⟨x1, x2, x3⟩, hx⟩ : ∃ x, L.getD k2 M.z0 = x := ⟨_, rfl⟩
            have HX := Hid.mk' hx
            rw [hx] at c1 c2 c3 hmem
            have d1 := cell_on hb2 c1
            have d2 := cell_on hb2 c2
            have d3 := cell_on hb2 c3
            have hbl := World.block_lt_of_cell? _ _ d1
            have hn := hR _ hmem
            have hokx := HA.out _ hmem
            have hs4 := M.size_le4096 hokx
            have htl := M.typ_lt (x1, x2, x3) ⟨hokx, hn⟩
            clear hc ha c1 c2 c3 hx hmem hokx
            simp only at d1 d2 d3 hn hs4
            have HO2 := Hid.mk' ho2
            clear ho2
            generalize hlist : M.bytes L.length ++ M.heads (L.take k2) = bs at *
            go_wp2_with fail
            refine (typeOf_any _ _ _ hn hs4 _).mono ?_
            rintro e w3 ⟨rfl, rfl⟩
            go_wp2_with fail
            refine (put_any _ (by omega) (by omega) _).mono ?_
            rintro e w4 ⟨v4, rfl, ho4, hb4⟩
            rw [Int.toNat_natCast] at ho4
            have hq3 : Below wr.heap.size wr ((wr.alloc (.cells (VC (x1, x2, x3)) 47)).alloc (.cells (VC (x1, x2, x3)) 47)) := ((Below.refl _ _).alloc (Nat.le_refl _) _).alloc (by simp) _
            have hq4 : Below wr.heap.size wr w4 := hq3.trans (hb4.mono (by simp; omega))
            have hz4 := hq4.size
            have s4 := owns_sees' ho4 (by have := M.size_le (M.typ (x1, x2, x3)); omega)
            have HAp := Hid.mk' (append_row w4 w.heap.size _ _ _ 24 _ _ _ (owns_keep HO2.out hq4) (src_sees s4) (by rw [M.bytes_length]; have := M.size_le (M.typ (x1, x2, x3)); omega) (by omega))
            have HB4 : Hid (Below w.heap.size w w4) := hb2.trans (hq4.mono hsz2)
            clear ho4 hb4 hq3 hq4 s4 HO2
            go_wp2_with (at_builtin; refine wpList_append_run rfl _ _ 24 24 rfl _ _ rfl rfl HAp.out ?_; rintro v5 w5 ⟨ho5, hg5, hl5⟩)
            go_roundw
            case rel =>
              refine ⟨k2 + 1, by omega, by go_num, HB4.out.grown hg5 (by omega) (fun q hq => (hbk q hq).1), ?_⟩
              rw [HN.out, HX.out, ← List.append_assoc, hlist, List.length_append, List.map_append]
              exact ho5
            case measure => simp [intOf]; omega
          · have e2 : k2 = L.length := by omega
            have ho3 := ho2
            rw [e2, List.take_length] at ho3
            clear ho2 hbk e2
            go_wp2
            go_loopw [7, 45] (fun t i wr => ∃ k : Nat, k ≤ L.length ∧ i = .int .i64 k ∧ Below w.heap.size w wr ∧ wr.ownsRow w.heap.size 5 1 t (M.bytes L.length ++ M.heads L ++ M.bodies (L.take k)).length ((M.bytes L.length ++ M.heads L ++ M.bodies (L.take k)).map B8)) (fun _ i _ => L.length - (intOf i).toNat)
            case atStart => exact ⟨0, by omega, rfl, hb2, by simpa [M.bodies] using ho3⟩
            case round =>
              obtain ⟨k3, hk3, rfl, hb3, ho3⟩ := hrel
              have hsz3 := hb3.size
              have hl9 : (M.bytes L.length ++ M.heads L ++ M.bodies (L.take k3)).length ≤ 1000000 := by
                have h1 := M.size_le L.length
                have h2 := M.heads_le L
                have h3 := M.bodies_le (L.take k3) (fun x hx => HA.out x (List.mem_of_mem_take hx))
                rw [List.length_append, List.length_append, M.bytes_length]
                rw [List.length_take] at h3
                omega
              by_cases hlt3 : k3 < L.length
              · obtain ⟨b, o, rfl, hc⟩ := ha (by omega)
                obtain ⟨c1, c2, c3⟩ := hc k3 hlt3
                have hmem := M.getD_mem L k3 hlt3
                have HN := Hid.mk' (M.bodies_next L k3 hlt3)
                obtain ⟨⟨x1, x2, x3⟩, hx⟩ : ∃ x, L.getD k3 M.z0 = x := ⟨_, rfl⟩
                have HX := Hid.mk' hx
                rw [hx] at c1 c2 c3 hmem
                have d1 := cell_on hb3 c1
                have d2 := cell_on hb3 c2
                have d3 := cell_on hb3 c3
                have hbl := World.block_lt_of_cell? _ _ d1
                have hn := hR _ hmem
                have hs4 := M.size_le4096 (HA.out _ hmem)
                clear hc ha c1 c2 c3 hx hmem
                simp only at d1 d2 d3 hn hs4
                have HO3 := Hid.mk' ho3
                clear ho3
                generalize hlist : M.bytes L.length ++ M.heads L ++ M.bodies (L.take k3) = bs at *
                go_wp2_with fail
                refine (appendBody_any _ w.heap.size _ _ _ _ _ _ (HO3.out.alloc _) (by simp; omega) hn hs4 (by omega)).mono ?_
                rintro e w4 ⟨v4, rfl, ho4, hb4⟩
                have HB4 : Hid (Below w.heap.size w w4) := (hb3.alloc hsz3 _).trans hb4
                clear hb4 HO3
                go_wp2
                go_roundw
                case rel =>
                  refine ⟨k3 + 1, by omega, by go_num, HB4.out, ?_⟩
                  rw [HN.out, HX.out, ← List.append_assoc, hlist, List.length_append, List.map_append]
                  exact ho4
                case measure => simp [intOf]; omega
              · have e3 : k3 = L.length := by omega
                have ho4 := ho3
                rw [e3, List.take_length, List.append_assoc] at ho4
                have er : M.bytes L.length ++ (M.heads L ++ M.bodies L) = M.record L := rfl
                rw [er] at ho4
                clear ho3 ha e3
                by_cases h14 : 16384 < (M.record L).length
                · have he : M.enc L = 7 := by unfold M.enc; rw [if_neg (by rw [HAO.out]; simp), if_neg h17, if_pos h14]
                  have HE := Hid.mk' he
                  clear he
                  obtain ⟨a9, c9, rfl, _⟩ := owned_rows (P := Try.prog) ho4
                  clear ho4
                  go_wp2
                  go_ret2
                  have eB : M.encB L = [] := by unfold M.encB; rw [HE.out]; rfl
                  rw [HE.out, eB]
                  exact ⟨_, ret_ve rfl, World.ownsRow_nil _ _ _ _, hb3⟩
                · have he : M.enc L = 0 := by unfold M.enc; rw [if_neg (by rw [HAO.out]; simp), if_neg h17, if_neg h14]
                  have HE := Hid.mk' he
                  clear he
                  obtain ⟨a9, c9, rfl, _⟩ := owned_rows (P := Try.prog) ho4
                  have HO4 := Hid.mk' ho4
                  clear ho4
                  go_wp2
                  go_ret2
                  rw [(M.enc_ok HE.out).2.2.2, HE.out]
                  exact ⟨_, ret_ve rfl, HO4.out, hb3⟩
end Go.Proofs.Ytdoahehiocmonaa
