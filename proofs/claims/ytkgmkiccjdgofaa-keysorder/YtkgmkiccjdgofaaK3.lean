/-
  The contracts of keys.rising and keys.place.
-/
import Derived.Test.YtkgmkiccjdgofaaK2
namespace Go.Proofs.Ytkgmkiccjdgofaa
open Go.RowKit

/-- A scope whose label stands behind a first statement, to which the run goes back. -/
theorem wp_scope_behind {P : Program} {a : Act} {w : World} {Q : Exit → Act → World → Prop} {pre body : Code} (l : Nat) (J : Act → World → Prop) (μ : Act → World → Nat) (hn : findLabel pre l = none)
    (hp : pre.wp P (Exit.then J (fun _ _ _ => False)) a w)
    (pass : ∀ a w, J a w → body.wp P (Exit.jump l (fun a' w' => J a' w' ∧ μ a' w' < μ a w) Q) a w) : (Code.scope (.seq pre (.seq (.label l) body))).wp P Q a w := by
  refine wp_scope_jumps (rest := .seq .skip body) l J μ (by simp [findLabel, hn]) (wp_seq (wp_mono hp ?_)) (fun a w h => wp_seq (wp_skip (pass a w h)))
  intro e a' w' h
  cases e with
  | normal =>
    refine wp_seq (wp_label (wp_mono (pass a' w' h) ?_))
    intro e a'' w'' h'
    cases e <;> first | exact h' | exact ⟨h'.1, h'.2.1⟩
  | _ => exact h.elim

theorem wrap_nat64 {m : Nat} (h : m ≤ 9223372036854775807) : IntKind.i64.wrap (m : Int) = (m : Int) := by
  simp only [IntKind.wrap, IntKind.bits, IntKind.signed]
  simp
  omega

/-- Where the run stands at the label. -/
def J31 (vl vk : Value) (LL : List (List M.V3)) (K : List M.V3) (w : World) (a' : Act) (w' : World) : Prop :=
  Below w.heap.size w w' ∧ ∃ (lo hi : Nat) (u7 u10 u11 u12 u13 u14 u15 u16 u17 u18 u19 u20 u21 u22 u23 u24 u25 u26 u27 u28 u29 : Value), a' = { tmps := #[vl, vk, undef, undef, .int .i64 0, .int .i64 lo, .int .i64 hi, u7, vl, .int .i64 LL.length, u10, u11, u12, u13, u14, u15, u16, u17, u18, u19, u20, u21, u22, u23, u24, u25, u26, u27, u28, u29], defers := [] } ∧ lo ≤ hi ∧ hi ≤ LL.length ∧ (∀ i, i < lo → M.ltK (LL.getD i []) K) ∧ ∀ i, hi ≤ i → i < LL.length → ¬ M.ltK (LL.getD i []) K
def mu31 (a' : Act) (_ : World) : Nat := (intOf (a'.tmps.getD 6 undef)).toNat - (intOf (a'.tmps.getD 5 undef)).toNat

set_option maxRecDepth 100000 in
set_option maxHeartbeats 400000 in
theorem place_any (vl vk : Value) (LL : List (List M.V3)) (K : List M.V3) (w : World) (hL : Lists w vl LL) (hK : Vals w vk K) (ho : M.okL LL) (hr : M.riseL LL) (ok : M.allOk K = true) :
    Calls Try.prog 31 #[vl, vk] w fun e w' => ∃ p : Nat, e = .returned (.int .i64 p) ∧ M.PlaceOf LL K p ∧ Below w.heap.size w w' := by
  have HV := Hid.mk' hK
  obtain ⟨⟨a, ca, rfl, ha⟩, hma⟩ := hL
  obtain ⟨⟨b, cb, rfl, hlb, hb⟩, hmb⟩ := hK
  clear hb
  go_enter Try.func31, Try.ntmps31
  go_wp2
  refine wp_scope_behind 0 (J31 (.slice a LL.length ca) (.slice b K.length cb) LL K w) mu31 rfl ?_ ?_
  · go_wp2
    exact ⟨Below.refl _ _, 0, LL.length, _, _, _, _, _, _, _, _, _, _, _, _, _, _, _, _, _, _, _, _, _, rfl, by omega, by omega, fun i h => by omega, fun i h1 h2 => by omega⟩
  · rintro a' w' ⟨hbel, lo, hi, u7, u10, u11, u12, u13, u14, u15, u16, u17, u18, u19, u20, u21, u22, u23, u24, u25, u26, u27, u28, u29, rfl, hle, hhi, h1, h2⟩
    have H1 := Hid.mk' h1
    have H2 := Hid.mk' h2
    clear h1 h2
    by_cases heq : lo = hi
    · have t1 : ((lo : Int) == (hi : Int)) = true := by simp [heq]
      have HP : Hid (M.PlaceOf LL K lo) := ⟨by omega, H1.out, fun i h => H2.out i (by omega)⟩
      clear heq
      go_wp2
      simp only [Exit.jump]
      go_ret
      exact ⟨lo, rfl, HP.out, hbel⟩
    · have t1 : ((lo : Int) == (hi : Int)) = false := by rw [beq_eq_false_iff_ne]; omega
      obtain ⟨mid, hmid⟩ : ∃ mid : Nat, mid = lo + (hi - lo) / 2 := ⟨_, rfl⟩
      have g1 : lo ≤ mid ∧ mid < hi := by omega
      have em : (lo : Int) + ((hi : Int) - (lo : Int)) / 2 = (mid : Int) := by omega
      obtain ⟨g1, g2⟩ := g1
      clear hmid heq
      obtain ⟨bb, oo, rfl, hc⟩ := ha (by omega)
      obtain ⟨u, c1, hV⟩ := hc mid (by omega)
      have d1 := cell_on hbel c1
      have HU := Hid.mk' (hV.below hbel)
      obtain ⟨⟨ua, uc, rfl, _, _⟩, hmu⟩ := hV
      have HD := Hid.mk' (M.cmpK_lt (ho mid (by omega)) ok)
      have HLow := Hid.mk' (M.below_low ho hr (K := K) (m := mid) (by omega))
      have HHigh := Hid.mk' (M.above_high ho hr (K := K) (m := mid))
      have HO := Hid.mk' (ho mid (by omega))
      have HVK := Hid.mk' (HV.out.below hbel)
      obtain ⟨L, hL⟩ : ∃ x, LL.getD mid [] = x := ⟨_, rfl⟩
      rw [hL] at HU HD HLow HHigh HO d1 hmu
      clear hc ha hL c1
      go_upto_region 5 with fail
      try rw [em]
      go_wp2_with fail
      refine (order_any _ _ L K _ HU.out HVK.out HO.out ok).mono ?_
      rintro e w1 ⟨rfl, hb1⟩
      have q1 : Below w.heap.size w w1 := hbel.trans (hb1.mono hbel.size)
      obtain ⟨c, hcc⟩ : ∃ c, M.cmpK L K = c := ⟨_, rfl⟩
      rw [hcc] at HD ⊢
      by_cases hlt : c < 0
      · have HL1 := Hid.mk' (HLow.out (HD.out.1 hlt))
        go_wp2
        go_step3
        refine ⟨rfl, ⟨q1, mid + 1, hi, _, _, _, _, _, _, _, _, _, _, _, _, _, _, _, _, _, _, _, _, _, rfl, by omega, by omega, HL1.out, H2.out⟩, ?_⟩
        show (intOf (Value.int _ _)).toNat - (intOf (Value.int _ _)).toNat < (intOf (Value.int _ _)).toNat - (intOf (Value.int _ _)).toNat
        simp only [intOf]
        omega
      · have HH1 := Hid.mk' (HHigh.out (fun h => hlt (HD.out.2 h)))
        go_wp2
        go_step3
        refine ⟨rfl, ⟨q1, lo, mid, _, _, _, _, _, _, _, _, _, _, _, _, _, _, _, _, _, _, _, _, _, rfl, by omega, by omega, H1.out, HH1.out⟩, ?_⟩
        show (intOf (Value.int _ _)).toNat - (intOf (Value.int _ _)).toNat < (intOf (Value.int _ _)).toNat - (intOf (Value.int _ _)).toNat
        simp only [intOf]
        omega

set_option maxRecDepth 100000 in
set_option maxHeartbeats 400000 in
theorem rising_any (v : Value) (LL : List (List M.V3)) (w : World) (hv : Lists w v LL) (ho : M.okL LL) :
    Calls Try.prog 29 #[v] w fun e w' => ∃ r : Bool, e = .returned (.bool r) ∧ (r = true ↔ M.riseL LL) ∧ Below w.heap.size w w' := by
  obtain ⟨⟨a, ca, rfl, ha⟩, hma⟩ := hv
  go_enter Try.func29, Try.ntmps29
  go_wp2
  go_loopw [3] (fun i wr => ∃ k : Nat, i = .int .i64 k ∧ 1 ≤ k ∧ (k = 1 ∨ k ≤ LL.length) ∧ Below w.heap.size w wr ∧ ∀ j, 1 ≤ j → j < k → M.cmpK (LL.getD (j - 1) []) (LL.getD j []) < 0) (fun i _ => LL.length + 1 - (intOf i).toNat)
  case atStart => exact ⟨1, rfl, by omega, by omega, Below.refl _ _, fun j h h' => by omega⟩
  case round =>
    obtain ⟨k, rfl, hk1, hk, hbel, hok⟩ := hrel
    have HK := Hid.mk' hok
    clear hok
    by_cases hlt : k < LL.length
    · obtain ⟨bb, oo, rfl, hc⟩ := ha (by omega)
      obtain ⟨m, hm⟩ : ∃ m, k = m + 1 := ⟨k - 1, by omega⟩
      have em : (k : Int) - 1 = (m : Int) := by omega
      have ew : IntKind.i64.wrap (m : Int) = (m : Int) := wrap_nat64 (by omega)
      have hmlt : m < LL.length := by omega
      have HM := Hid.mk' hm
      clear hm
      obtain ⟨u, c1, hV⟩ := hc m (by omega)
      obtain ⟨u', c2, hV'⟩ := hc k hlt
      have d1 := cell_on hbel c1
      have d2 := cell_on hbel c2
      have HU := Hid.mk' (hV.below hbel)
      have HU' := Hid.mk' (hV'.below hbel)
      have HO := Hid.mk' (ho m (by omega))
      have HO' := Hid.mk' (ho k hlt)
      have HR : Hid (M.riseL LL → M.cmpK (LL.getD m []) (LL.getD k []) < 0) := fun h => by
        have := h k (by omega) hlt
        rwa [show k - 1 = m by have := HM.out; omega] at this
      obtain ⟨⟨ua, uc, rfl, _, _⟩, hmu⟩ := hV
      obtain ⟨⟨ua', uc', rfl, _, _⟩, hmu'⟩ := hV'
      obtain ⟨L, hL⟩ : ∃ x, LL.getD m [] = x := ⟨_, rfl⟩
      obtain ⟨L', hL'⟩ : ∃ x, LL.getD k [] = x := ⟨_, rfl⟩
      have HX := Hid.mk' hL
      have HX' := Hid.mk' hL'
      rw [hL] at HU HO d1 hmu
      rw [hL'] at HU' HO' d2 hmu'
      rw [hL, hL'] at HR
      clear hc ha hL hL' c1 c2
      obtain ⟨c, hcc⟩ : ∃ c, M.cmpK L L' = c := ⟨_, rfl⟩
      rw [hcc] at HR
      go_wp2_with fail
      go_region_held3 (fun w' => w'.cell? ⟨bb, oo + m, none⟩ = some (.slice ua L.length uc) ∧ w'.cell? ⟨bb, oo + k, none⟩ = some (.slice ua' L'.length uc')) (first | exact hS1.out | assumption | go_keep)
        (first
          | (go_at_call 26; refine (order_any _ _ L L' _ (HU.out.below (Below.refl _ _).drew) (HU'.out.below (Below.refl _ _).drew) HO.out HO'.out).mono ?_; rintro e w1 ⟨rfl, hb1⟩; rw [hcc]; have hS1 : Hid ((fun w' : World => w'.cell? ⟨bb, oo + m, none⟩ = some (.slice ua L.length uc) ∧ w'.cell? ⟨bb, oo + k, none⟩ = some (.slice ua' L'.length uc')) w1) := ⟨cell_on hb1 (cell_on (Below.refl _ _).drew d1), cell_on hb1 (cell_on (Below.refl _ _).drew d2)⟩; have Q1 : Below w.heap.size w w1 := (hbel.drew).trans (hb1.mono hbel.size); clear hb1))
      by_cases hge : 0 ≤ c
      · have HE : Hid (¬ M.riseL LL) := fun h => by have := HR.out h; omega
        go_wp2
        go_ret
        exact ⟨false, rfl, ⟨fun h => (by cases h), fun h => (HE.out h).elim⟩, Q1⟩
      · go_wp2
        go_roundw
        case rel =>
          refine ⟨k + 1, by go_num, by omega, by omega, Q1, fun j h1 h2 => ?_⟩
          by_cases he : j = k
          · rw [he, show k - 1 = m by have := HM.out; omega, HX.out, HX'.out, hcc]; omega
          · exact HK.out j h1 (by omega)
        case measure => simp [intOf]; omega
    · have HE : Hid (M.riseL LL) := fun i h1 h2 => HK.out i h1 (by omega)
      go_wp2
      go_ret
      exact ⟨true, rfl, ⟨fun _ => HE.out, fun _ => rfl⟩, hbel⟩
end Go.Proofs.Ytkgmkiccjdgofaa
