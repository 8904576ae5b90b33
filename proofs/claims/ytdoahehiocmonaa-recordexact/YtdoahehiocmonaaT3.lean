/-
  The contracts of record's fromBody, number.
-/
import Derived.Test.YtdoahehiocmonaaT2
namespace Go.Proofs.Ytdoahehiocmonaa
open Go.RowKit

theorem Sees.drop1 {w : World} {a : Option Addr} {ca : Nat} {l : List Nat} (h : Sees w (.slice a l.length ca) l) (k : Nat) (hk : k ≤ l.length) : Sees w (.slice (Option.map (fun x => x.add k) a) (l.length - k) (ca - k)) (l.drop k) := by
  obtain ⟨⟨a', c', he, hc⟩, hm⟩ := h
  obtain ⟨rfl, rfl⟩ : a = a' ∧ ca = c' := by simpa using he
  have hl : (l.drop k).length = l.length - k := by simp
  refine ⟨⟨Option.map (fun x => x.add k) a, ca - k, by rw [hl], fun h1 => ?_⟩, by omega⟩
  rw [hl] at h1
  obtain ⟨b, o, rfl, hj⟩ := hc (by omega)
  refine ⟨b, o + k, ?_, fun j hj' => ?_⟩
  · have : (⟨b, o, none⟩ : Addr).add k = ⟨b, o + k, none⟩ := by unfold Addr.add; split <;> simp_all
    rw [Option.map_some, this]
  · rw [hl] at hj'
    rw [Nat.add_assoc, hj (k + j) (by omega)]
    simp [List.getD_eq_getElem?_getD]

theorem Sees.drop0 {w : World} {a : Option Addr} {ca m : Nat} {l : List Nat} (k : Nat) (hk : l.length ≤ k) (hm : m = 0) : Sees w (.slice a m ca) (l.drop k) := by
  have e : l.drop k = [] := List.drop_of_length_le hk
  rw [e]
  subst hm
  exact ⟨⟨a, ca, rfl, fun h => by simp at h⟩, by simp⟩

theorem ret_nsb {n n' : Int} {v : Value} {x y : Bool} (h1 : n = n') (h2 : x = y) : Ending.returned (.tuple #[.int .u64 n, v, .bool x]) = .returned (.tuple #[.int .u64 n', v, .bool y]) := by rw [h1, h2]

theorem cast_beq0 (e : Nat) : ((e : Int) == 0) = decide (e = 0) := by
  by_cases h : e = 0
  · simp [h]
  · rw [decide_eq_false h, beq_eq_false_iff_ne]; omega

set_option maxRecDepth 100000 in
set_option maxHeartbeats 400000 in
theorem number_any (v : Value) (l : List Nat) (w : World) (hv : Sees w v l) (hl : ∀ x ∈ l, x < 256) (hr : Roomy v) :
    Calls Try.prog 30 #[v] w fun e w' => ∃ v', e = .returned (.tuple #[.int .u64 (M.get l).1, v', .bool (decide ((M.get l).2.2 = 0))]) ∧ (∃ nq, w' = w.drewN nq) ∧ (∀ w2, Sees w2 v l → Sees w2 v' (l.drop (M.get l).2.1)) ∧ Roomy v' := by
  have hg := M.get_err l
  have HV := Hid.mk' hv
  have HL := Hid.mk' hl
  have hk : (M.get l).2.1 ≤ l.length := by
    rcases hg with ⟨h, _⟩ | h
    · exact (M.get_ok l hl h).2.1
    · rw [h]; simp
  obtain ⟨⟨a, ca, rfl, ha⟩, hma⟩ := hv
  obtain ⟨_, _, _, hr1, hr2⟩ := hr
  obtain ⟨rfl, rfl, rfl⟩ := by simpa using hr1
  obtain ⟨⟨n, s, e0⟩, HG⟩ : ∃ g, Hid (M.get l = g) := ⟨_, rfl⟩
  rw [HG.out] at hk
  simp only at hk
  clear hr1 ha hg hl
  have f1 : (s : Int) ≤ (l.length : Int) := by omega
  have f2 : (0 : Int) ≤ (s : Int) := by omega
  go_enter Try.func30, Try.ntmps30
  go_wp2_with fail
  refine (get_any _ l _ HV.out HL.out).mono ?_
  rintro e w' ⟨rfl, rfl⟩
  rw [HG.out]
  go_wp2_with fail
  go_quiet (fail)
  go_wp2
  all_goals
    go_ret3
    rw [HG.out]
    refine ⟨_, ret_nsb rfl (cast_beq0 _), ⟨_, rfl⟩, ?_, ⟨_, _, _, rfl, by omega⟩⟩
    first
      | exact fun w2 h2 => h2.drop1 s hk
      | exact fun w2 _ => Sees.drop0 s (by omega) (by omega)

/-- The cells of a value. -/
abbrev VC (x : M.V3) : Array Value := #[.int .i64 x.1, .int .i64 x.2.1, .string x.2.2]

theorem conv_sees {w : World} {v : Value} {l : List Nat} (h : Sees w v l) : (convert 24 9 v).run Try.prog w = .ok (.string (M.ba l)) w := by
  obtain ⟨⟨a, ca, rfl, hc⟩, hm⟩ := h
  cases a with
  | none =>
    have h0 : l.length = 0 := by
      by_cases h1 : 1 ≤ l.length
      · obtain ⟨_, _, h2, _⟩ := hc h1; cases h2
      · omega
    obtain rfl := List.eq_nil_of_length_eq_zero h0
    exact run_convert_bytes_nil w 24 5 Try.underlying24 Try.underlying5 0 ca 9 Try.underlying9
  | some ad =>
    by_cases h1 : 1 ≤ l.length
    · obtain ⟨b, o, hb, hj⟩ := hc h1
      obtain rfl := by simpa using hb
      have := run_convert_bytes_arg (P := Try.prog) w 24 5 Try.underlying24 Try.underlying5 b o l.length ca (l.map fun (x : Nat) => (x : Int)) (by simp) (fun i hi => by
        rw [hj i hi]
        simp [List.getD_eq_getElem?_getD, hi]) 9 Try.underlying9
      rw [this]
      congr 2
      unfold strOfNums M.ba
      simp
    · obtain rfl : l = [] := List.eq_nil_of_length_eq_zero (by omega)
      rw [List.length_nil, run_convert_bytes_string w 24 9 5 _ _ _ Try.underlying24 Try.underlying5 Try.underlying9, run_bytesToString w ad 0 ca [] (by simp [loadCells, loadCellsFrom])]
      rfl

set_option maxRecDepth 100000 in
set_option maxHeartbeats 1000000 in
theorem fromBody_any (t s : Nat) (v : Value) (l : List Nat) (w : World) (hts : M.tsz t = some s) (hv : Sees w v l) (hl : ∀ x ∈ l, x < 256) (hs : l.length = s) :
    Calls Try.prog 32 #[.int .u64 t, v] w fun e w' => e = .returned (.agg (VC (M.fromB t l))) ∧ w' = w.alloc (.cells (VC (M.fromB t l)) 47) := by
  have HC : Hid (∀ o, (convert 24 9 v).run Try.prog (w.alloc o) = .ok (.string (M.ba l)) (w.alloc o)) := fun o => conv_sees (hv.below ((Below.refl _ _).alloc (Nat.le_refl _) _))
  have HS : Hid (∀ o, s ≤ 8 ∧ t < 12 → Calls Try.prog 44 #[v] (w.alloc o) fun e w' => e = .returned (.int .i64 (M.sgn l)) ∧ w' = w.alloc o) := fun o h => signed_any v l _ (hv.below ((Below.refl _ _).alloc (Nat.le_refl _) _)) hl (by
    have hw := tsz_ways t
    rw [hts] at hw
    simp only [Option.some.injEq, reduceCtorEq, and_false, false_or] at hw
    omega)
  have hc := HC.out
  have ht2 : t ≤ 8205 := by
    have hw := tsz_ways t
    rw [hts] at hw
    simp only [Option.some.injEq, reduceCtorEq, and_false, false_or] at hw
    omega
  by_cases h0 : t = 0
  · subst h0
    rw [show M.fromB 0 l = (0, 0, ⟨#[]⟩) from rfl]
    clear hv
    go_enter Try.func32, Try.ntmps32
    go_wp2
    refine bodyPost_ret ?_ rfl ⟨rfl, rfl⟩
    simp [results, Try.results32, go_sem]
  · by_cases h6 : t = 6
    · subst h6
      rw [show M.fromB 6 l = (1, 1, ⟨#[]⟩) from rfl]
      clear hv
      go_enter Try.func32, Try.ntmps32
      go_wp2
      refine bodyPost_ret ?_ rfl ⟨rfl, rfl⟩
      simp [results, Try.results32, go_sem]
    · have b0 : ((t : Int) == 0) = false := by rw [beq_eq_false_iff_ne]; omega
      have b6 : ((t : Int) == 6) = false := by rw [beq_eq_false_iff_ne]; omega
      by_cases h12 : t < 12
      · have e : M.fromB t l = (1, M.sgn l, ⟨#[]⟩) := by unfold M.fromB; rw [if_neg h0, if_neg h6, if_pos h12]
        rw [e]
        have h8 : s ≤ 8 := by
          have hw := tsz_ways t
          rw [hts] at hw
          simp only [Option.some.injEq, reduceCtorEq, and_false, false_or] at hw
          omega
        clear hv e h0 h6
        go_enter Try.func32, Try.ntmps32
        go_wp2_with (go_at_call 44; refine (HS.out _ ⟨h8, h12⟩).mono ?_; rintro e w' ⟨rfl, rfl⟩)
        refine bodyPost_ret ?_ rfl ⟨rfl, rfl⟩
        simp [results, Try.results32, go_sem]
      · by_cases ho : t % 2 = 1
        · have e : M.fromB t l = (2, 0, M.ba l) := by unfold M.fromB; rw [if_neg h0, if_neg h6, if_neg h12, if_pos ho]
          rw [e]
          have bo : ((t : Int) % 2 == 1) = true := by rw [beq_iff_eq]; omega
          clear hv e h0 h6 ho
          go_enter Try.func32, Try.ntmps32
          go_wp2
          refine bodyPost_ret ?_ rfl ⟨rfl, rfl⟩
          simp [results, Try.results32, go_sem]
        · have e : M.fromB t l = (3, 0, M.ba l) := by unfold M.fromB; rw [if_neg h0, if_neg h6, if_neg h12, if_neg ho]
          rw [e]
          have bo : ((t : Int) % 2 == 1) = false := by rw [beq_eq_false_iff_ne]; omega
          clear hv e h0 h6 ho
          go_enter Try.func32, Try.ntmps32
          go_wp2
          refine bodyPost_ret ?_ rfl ⟨rfl, rfl⟩
          simp [results, Try.results32, go_sem]
end Go.Proofs.Ytdoahehiocmonaa
