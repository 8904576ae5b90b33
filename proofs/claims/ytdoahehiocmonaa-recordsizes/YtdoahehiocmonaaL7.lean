/-
  The law RecordSizes: its mathematics and the walk.
-/
import Derived.Test.YtdoahehiocmonaaAsk
namespace Go.Proofs.Ytdoahehiocmonaa
open Go.RowKit

theorem size_typ {x : M.V3} (h : M.Ok x.1 x.2.1 x.2.2) : M.size (M.typ x) = if 57 < x.2.2.size then 2 else 1 := by
  have hs := M.size_le4096 h
  have h1 : ∀ t, t < 128 → M.size t = 1 := fun t ht => by rw [M.size_small t (by omega), M.groupsOf_one t (by omega)]
  have h2 : ∀ t, 128 ≤ t → t < 16384 → M.size t = 2 := fun t ht hu => by rw [M.size_small t (by omega), M.groupsOf_step t (by omega), M.groupsOf_one _ (by omega)]
  obtain ⟨k, n, s⟩ := x
  simp only at h hs ⊢
  have e1 : ∀ q, M.typ (1, n, q) = M.tyI n := fun _ => rfl
  have e2 : M.typ (2, n, s) = 13 + 2 * s.size := rfl
  have e3 : M.typ (3, n, s) = 12 + 2 * s.size := rfl
  rcases h with ⟨rfl, rfl, h⟩ | ⟨rfl, h⟩ | ⟨hk, rfl, h⟩
  · rw [if_neg (by omega)]; exact h1 0 (by omega)
  · rw [if_neg (by omega), e1]; exact h1 _ (by have := tyI_lt n; omega)
  · rcases hk with rfl | rfl
    · rw [e2]
      split
      · exact h2 _ (by omega) (by omega)
      · exact h1 _ (by omega)
    · rw [e3]
      split
      · exact h2 _ (by omega) (by omega)
      · exact h1 _ (by omega)

theorem one_rec {x : M.V3} (h : M.OkV x) : M.enc [x] = 0 ∧ (M.encB [x]).length = (if 57 < x.2.2.size then 3 else 2) + (M.body x).length := by
  have er : M.record [x] = M.bytes 1 ++ ((M.bytes (M.typ x) ++ []) ++ (M.body x ++ [])) := rfl
  have hb := M.body_le h.1
  have hl : (M.record [x]).length = (if 57 < x.2.2.size then 3 else 2) + (M.body x).length := by
    rw [er, List.append_nil, List.append_nil, List.length_append, List.length_append, M.bytes_length, M.bytes_length, size_typ h.1, M.size_small 1 (by decide), M.groupsOf_one 1 (by decide)]
    split <;> omega
  obtain ⟨e1, e2, _⟩ := enc_of (L := [x]) rfl (by simp) (fun y hy => by simp at hy; subst hy; exact h) (by rw [hl]; split <;> omega)
  exact ⟨e1, by rw [e2, hl]⟩

theorem vals_one (w : World) (x : M.V3) : Vals (w.alloc (.cells (VC x) 47)) (.slice (some ⟨w.heap.size, 0, none⟩) 1 1) [x] := by
  refine ⟨⟨_, 1, rfl, fun _ => ⟨w.heap.size, 0, rfl, fun j hj => ?_⟩⟩, by simp⟩
  have : j = 0 := by simpa using hj
  subst this
  exact ⟨by simp, by simp, by simp⟩

/-- What the law's loop has found so far. -/
def f32 (n : Int) : Nat := if -2147483648 ≤ n ∧ n < 2147483648 then 4 else 8
def f16 (n : Int) : Nat := if -32768 ≤ n ∧ n < 32768 then 2 else f32 n
def f8 (n : Int) : Nat := if -128 ≤ n ∧ n < 128 then 1 else f16 n

theorem f8_isz {n : Int} (h0 : n ≠ 0) (h1 : n ≠ 1) : f8 n = M.isz (M.tyI n) := by
  unfold f8 f16 f32
  rcases M.tyI_cases n with ⟨h, _⟩ | ⟨h, _⟩ | ⟨a, b, _, _, e⟩ | ⟨a, b, c, e⟩ | ⟨a, b, c, e⟩ | ⟨a, e⟩
  · exact absurd h h0
  · exact absurd h h1
  · rw [e, if_pos ⟨a, b⟩]; rfl
  · rw [e, if_neg c, if_pos ⟨a, b⟩]; rfl
  · rw [e, if_neg (by omega), if_neg c, if_pos ⟨a, b⟩]; rfl
  · rw [e, if_neg (by omega), if_neg (by omega), if_neg a]; rfl

theorem way32 (n : Int) : (((n / 2147483648 == 0) = true) ∧ f32 n = 4) ∨ (((n / 2147483648 == 0) = false) ∧ ((n / 2147483648 == -1) = true) ∧ f32 n = 4) ∨ (((n / 2147483648 == 0) = false) ∧ ((n / 2147483648 == -1) = false) ∧ f32 n = 8) := by
  unfold f32
  simp only [beq_iff_eq, beq_eq_false_iff_ne]
  split <;> omega
theorem way16 (n : Int) : (((n / 32768 == 0) = true) ∧ f16 n = 2) ∨ (((n / 32768 == 0) = false) ∧ ((n / 32768 == -1) = true) ∧ f16 n = 2) ∨ (((n / 32768 == 0) = false) ∧ ((n / 32768 == -1) = false) ∧ f16 n = f32 n) := by
  unfold f16
  simp only [beq_iff_eq, beq_eq_false_iff_ne]
  split <;> omega
theorem way8 (n : Int) : (((n / 128 == 0) = true) ∧ f8 n = 1) ∨ (((n / 128 == 0) = false) ∧ ((n / 128 == -1) = true) ∧ f8 n = 1) ∨ (((n / 128 == 0) = false) ∧ ((n / 128 == -1) = false) ∧ f8 n = f16 n) := by
  unfold f8
  simp only [beq_iff_eq, beq_eq_false_iff_ne]
  split <;> omega

set_option maxRecDepth 100000 in
set_option maxHeartbeats 1000000 in
theorem sizes_walk (v : Value) (len : Nat) (VL VB : Nat → Value) (LL : Nat → List M.V3) (BB : Nat → List Nat) (w : World) (hA : Asks w v len VL VB LL BB) :
    Calls Try.prog 7 #[v] w fun e w' => e = .returned (.bool true) ∧ Below w.heap.size w w' := by
  obtain ⟨a, cap, rfl, hmax, hA⟩ := hA
  go_enter Try.func7, Try.ntmps7
  go_wp2
  go_loopw [3] (fun i wr => ∃ k : Nat, k ≤ len ∧ k ≤ 12 ∧ i = .int .i64 k ∧ Below w.heap.size w wr) (fun i _ => 12 - (intOf i).toNat)
  case atStart => exact ⟨0, by omega, by omega, rfl, Below.refl _ _⟩
  case round =>
    obtain ⟨k, hk, hk12, rfl, hb⟩ := hrel
    have hsz := hb.size
    by_cases hlt : k < len ∧ k < 12
    · obtain ⟨h1, h2⟩ := hlt
      obtain ⟨b, o, rfl, hc⟩ := hA (by omega)
      obtain ⟨c1, c2, hvl, hRl, hsb, hlb, hrb⟩ := hc k h1
      have d1 : wr.cell? ⟨b, o + k * 2, none⟩ = some (VL k) := cell_on hb c1
      have d2 : wr.cell? ⟨b, o + k * 2 + 1, none⟩ = some (VB k) := cell_on hb c2
      have HV := Hid.mk' (hvl.below hb)
      have HS := Hid.mk' (hsb.below hb)
      have HR := Hid.mk' hRl
      have HLB := Hid.mk' hlb
      have HRB := Hid.mk' hrb
      clear hc hA c1 c2 hvl hRl hsb hlb hrb
      generalize VL k = vl at *
      generalize VB k = vb at *
      generalize LL k = L at *
      generalize BB k = B at *
      obtain ⟨a1, c1, hvl⟩ : ∃ a c, vl = .slice a L.length c := by obtain ⟨⟨a, c, h, _⟩, _⟩ := HV.out; exact ⟨a, c, h⟩
      subst hvl
      clear HS HLB HRB d2
      generalize wr = wo at *
      have hd12 : decide ((k : Int) < 12) = true := decide_eq_true (by omega)
      go_wp2
      try simp only [hd12]
      go_loopw [4] (fun i wq => ∃ j : Nat, i = .int .i64 j ∧ j ≤ L.length ∧ j ≤ 20 ∧ Below wo.heap.size wo wq) (fun i _ => 20 - (intOf i).toNat)
      case atStart => exact ⟨0, rfl, by omega, by omega, Below.refl _ _⟩
      case round =>
        obtain ⟨j, rfl, hjL, hj20, hbq⟩ := hrel
        have e1 := cell_on hbq d1
        have hzq := hbq.size
        by_cases hlt : j < L.length ∧ j < 20
        · obtain ⟨g1, g2⟩ := hlt
          obtain ⟨⟨a7, c7, h7, hc7⟩, _⟩ := HV.out.below hbq
          obtain ⟨rfl, rfl⟩ : a1 = a7 ∧ c1 = c7 := by simpa using h7
          obtain ⟨b7, o7, rfl, hc⟩ := hc7 (by omega)
          obtain ⟨y1, y2, y3⟩ := hc j g1
          have hmem := M.getD_mem L j g1
          obtain ⟨⟨x1, x2, x3⟩, hx⟩ : ∃ x, L.getD j M.z0 = x := ⟨_, rfl⟩
          rw [hx] at y1 y2 y3 hmem
          have hn := HR.out _ hmem
          clear hc hc7 h7 hx hmem
          simp only at y1 y2 y3 hn
          have hbe := World.block_lt_of_cell? _ _ e1
          have hby := World.block_lt_of_cell? _ _ y1
          by_cases hok : M.Ok x1 x2 x3
          · have dok : decide (M.Ok x1 x2 x3) = true := decide_eq_true hok
            obtain ⟨he0, hel⟩ := one_rec (x := (x1, x2, x3)) ⟨hok, hn⟩
            have hRn : ∀ y ∈ [(x1, x2, x3)], M.R y.2.1 := fun y hy => by simp at hy; subst hy; exact hn
            have hs4 := M.size_le4096 (x := (x1, x2, x3)) hok
            have hbl := M.body_le (x := (x1, x2, x3)) hok
            have HOK := Hid.mk' hok
            simp only at hel hs4
            clear hok
            go_wp2_with (go_at_call 21; refine (may _ _ _ _).mono ?_; rintro e wm ⟨rfl, rfl⟩; rw [dok])
            have hvo := vals_one ((wr.alloc (.cells (VC (x1, x2, x3)) 47)).alloc (.cells (VC (x1, x2, x3)) 47)) (x1, x2, x3)
            rw [show ((wr.alloc (.cells (VC (x1, x2, x3)) 47)).alloc (.cells (VC (x1, x2, x3)) 47)).heap.size = wr.heap.size + 1 + 1 by simp] at hvo
            refine (Encode_any _ [(x1, x2, x3)] _ hvo hRn).mono ?_
            rintro e w2 ⟨v2, rfl, ho2, hb2⟩
            have s1 : w2.cell? ⟨wr.heap.size, 0, none⟩ = some (.int .i64 x1) := cell_on hb2 (by rw [World.cell?_alloc_past _ _ _ (by simp; omega), World.cell?_alloc_past _ _ _ (by simp)]; simp)
            have s2 : w2.cell? ⟨wr.heap.size, 1, none⟩ = some (.int .i64 x2) := cell_on hb2 (by rw [World.cell?_alloc_past _ _ _ (by simp; omega), World.cell?_alloc_past _ _ _ (by simp)]; simp)
            have s3 : w2.cell? ⟨wr.heap.size, 2, none⟩ = some (.string x3) := cell_on hb2 (by rw [World.cell?_alloc_past _ _ _ (by simp; omega), World.cell?_alloc_past _ _ _ (by simp)]; simp)
            have q2 : Below wo.heap.size wo w2 := (((hbq.alloc hzq _).alloc (by simp; omega) _).alloc (by simp; omega) _).trans (hb2.mono (by simp; omega))
            obtain ⟨a9, c9, rfl, _⟩ := owned_rows (P := Try.prog) ho2
            rw [he0]
            generalize (M.encB [(x1, x2, x3)]).length = LEN at *
            clear ho2 hb2 hvo hRn he0 e1 y1 y2 y3 hbe hby
            by_cases hA : x1 = 1 ∧ x2 ≠ 0 ∧ x2 ≠ 1
            · obtain ⟨rfl, n0, n1⟩ := hA
              have hz : x3.size = 0 := by rcases HOK.out with ⟨h, _⟩ | ⟨_, h⟩ | ⟨h, _⟩ <;> omega
              have hbe : M.body (1, x2, x3) = M.be (M.isz (M.tyI x2)) x2 := rfl
              have hLEN : LEN = 2 + f8 x2 := by
                rw [hel, hbe, M.be_length, ← f8_isz n0 n1, if_neg (by omega)]
              have b1 : (x2 != 0) = true := by rw [bne_iff_ne]; exact n0
              have b2 : (x2 != 1) = true := by rw [bne_iff_ne]; exact n1
              have h57 : ¬ 57 < x3.size := by omega
              have hf8 : f8 x2 ≤ 8 := by unfold f8 f16 f32; repeat' split
                                         all_goals omega
              have HF8 := Hid.mk' hf8
              have HLEN := Hid.mk' hLEN
              clear hz hbe hel hLEN n0 n1 hf8
              go_wp2
              go_loopw [8, 9] (fun t i wq => wq = w2 ∧ ((i = .int .i64 4 ∧ t = .int .i64 8) ∨ (i = .int .i64 2 ∧ t = .int .i64 ((f32 x2 : Nat) : Int)) ∨ (i = .int .i64 1 ∧ t = .int .i64 ((f16 x2 : Nat) : Int)) ∨ (i = .int .i64 0 ∧ t = .int .i64 ((f8 x2 : Nat) : Int)))) (fun _ i _ => (intOf i).toNat)
              case atStart => exact ⟨rfl, .inl ⟨rfl, rfl⟩⟩
              case round =>
                obtain ⟨rfl, hways⟩ := hrel
                rcases hways with ⟨rfl, rfl⟩ | ⟨rfl, rfl⟩ | ⟨rfl, rfl⟩ | ⟨rfl, rfl⟩
                · rcases way32 x2 with ⟨t1, e⟩ | ⟨t1, t2, e⟩ | ⟨t1, t2, e⟩
                  all_goals
                    have HE := Hid.mk' e
                    clear e
                    go_wp2
                    go_roundw
                    case rel => exact ⟨by trivial, .inr (.inl ⟨rfl, by rw [HE.out] <;> first | rfl | trivial⟩)⟩
                    case measure => simp [intOf]
                · rcases way16 x2 with ⟨t1, e⟩ | ⟨t1, t2, e⟩ | ⟨t1, t2, e⟩
                  all_goals
                    have HE := Hid.mk' e
                    clear e
                    go_wp2
                    go_roundw
                    case rel => exact ⟨by trivial, .inr (.inr (.inl ⟨rfl, by rw [HE.out] <;> first | rfl | trivial⟩))⟩
                    case measure => simp [intOf]
                · rcases way8 x2 with ⟨t1, e⟩ | ⟨t1, t2, e⟩ | ⟨t1, t2, e⟩
                  all_goals
                    have HE := Hid.mk' e
                    clear e
                    go_wp2
                    go_roundw
                    case rel => exact ⟨by trivial, .inr (.inr (.inr ⟨rfl, by rw [HE.out] <;> first | rfl | trivial⟩))⟩
                    case measure => simp [intOf]
                · have f8b := HF8.out
                  have hT : ((LEN : Int) != 2 + ((f8 x2 : Nat) : Int)) = false := by have := HLEN.out; rw [bne_eq_false_iff_eq]; omega
                  go_wp2_with (go_at_call 12; refine (num_any _ _).mono ?_; rintro e w9 ⟨rfl, rfl⟩)
                  go_roundw
                  case rel => exact ⟨j + 1, by go_num, by omega, by omega, q2⟩
                  case measure => simp [intOf]; omega
            · have hN : (M.body (x1, x2, x3)).length = x3.size := by
                by_cases h1 : x1 = 1
                · subst h1
                  have hz : x3.size = 0 := by rcases HOK.out with ⟨h, _⟩ | ⟨_, h⟩ | ⟨h, _⟩ <;> omega
                  have hn01 : x2 = 0 ∨ x2 = 1 := by omega
                  rw [hz]
                  rcases hn01 with rfl | rfl <;> rfl
                · have eb : M.body (x1, x2, x3) = M.bl x3 := by unfold M.body; rw [if_neg h1]
                  rw [eb, M.bl_length]
              rw [hN] at hel
              have hways : (x1 == 1) = false ∨ ((x1 == 1) = true ∧ (x2 != 0) = false) ∨ ((x1 == 1) = true ∧ (x2 != 0) = true ∧ (x2 != 1) = false) := by
                simp only [beq_eq_false_iff_ne, beq_iff_eq, bne_eq_false_iff_eq, bne_iff_ne]
                omega
              clear hN hA hbl
              by_cases h57 : 57 < x3.size
              · rw [if_pos h57] at hel
                have hT : ((LEN : Int) != 3 + (x3.size : Int)) = false := by rw [bne_eq_false_iff_eq]; omega
                clear hel
                rcases hways with b1 | ⟨b1, b2⟩ | ⟨b1, b2, b3⟩
                all_goals
                  go_wp2_with (go_at_call 12; refine (num_any _ _).mono ?_; rintro e w9 ⟨rfl, rfl⟩)
                  go_roundw
                  case rel => exact ⟨j + 1, by go_num, by omega, by omega, q2⟩
                  case measure => simp [intOf]; omega
              · rw [if_neg h57] at hel
                have hT : ((LEN : Int) != 2 + (x3.size : Int)) = false := by rw [bne_eq_false_iff_eq]; omega
                clear hel
                rcases hways with b1 | ⟨b1, b2⟩ | ⟨b1, b2, b3⟩
                all_goals
                  go_wp2_with (go_at_call 12; refine (num_any _ _).mono ?_; rintro e w9 ⟨rfl, rfl⟩)
                  go_roundw
                  case rel => exact ⟨j + 1, by go_num, by omega, by omega, q2⟩
                  case measure => simp [intOf]; omega
          · have dok : decide (M.Ok x1 x2 x3) = false := decide_eq_false hok
            clear hok
            go_wp2_with (go_at_call 21; refine (may _ _ _ _).mono ?_; rintro e wm ⟨rfl, rfl⟩; rw [dok])
            go_roundw
            case rel => exact ⟨j + 1, by go_num, by omega, by omega, (hbq.alloc hzq _).alloc (by simp; omega) _⟩
            case measure => simp [intOf]; omega
        · have t : j < L.length → ¬ j < 20 := fun h1 h2 => hlt ⟨h1, h2⟩
          by_cases hj1 : j < L.length
          all_goals
            go_wp2
            go_roundw
            case rel => exact ⟨k + 1, by omega, by omega, by go_num, hb.trans (hbq.mono hsz)⟩
            case measure => simp [intOf]; omega
    · have t : k < len → ¬ k < 12 := fun h1 h2 => hlt ⟨h1, h2⟩
      by_cases h1 : k < len
      all_goals
        go_wp2_with fail
        refine (wakes_any _).mono ?_
        rintro e w3 ⟨rfl, hb3⟩
        go_wp2
        go_ret
        exact ⟨rfl, hb.trans (hb3.mono hsz)⟩
end Go.Proofs.Ytdoahehiocmonaa
