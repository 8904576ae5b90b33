/-
  Picks that are handed in; the contract of the picker's next.
-/
import Derived.Test.YthkjjebghfcgkaaPk
namespace Go.Proofs.Ythkjjebghfcgkaa
open Go.RowKit Go.Maps

/-- The slice v shows whole numbers. -/
def Ins (w : World) (v : Value) (l : List Int) : Prop :=
  (∃ a c, v = .slice a l.length c ∧ l.length ≤ c ∧ c ≤ 9223372036854775807 ∧ (1 ≤ l.length → ∃ b o, a = some ⟨b, o, none⟩ ∧ ∀ j, j < l.length → w.cell? ⟨b, o + j, none⟩ = some (.int .i64 (l.getD j 0))))
theorem Ins.on {w w' : World} {v : Value} {l : List Int} (h : Ins w v l) {fs : List Nat} (hF : Fr fs w w') (hn : ∀ a n c, v = .slice (some a) n c → a.block ∉ fs) : Ins w' v l := by
  obtain ⟨a, c, rfl, h1, h2, h3⟩ := h
  refine ⟨a, c, rfl, h1, h2, fun h4 => ?_⟩
  obtain ⟨b, o, rfl, h5⟩ := h3 h4
  exact ⟨b, o, rfl, fun j hj => hF.cell (h5 j hj) (hn ⟨b, o, none⟩ _ _ rfl)⟩
theorem Ins.nil (w : World) : Ins w (.slice none 0 0) [] := ⟨none, 0, rfl, by simp, by omega, fun h => absurd h (by simp)⟩

theorem Ins.on1 {w w' : World} {v : Value} {l : List Int} (h : Ins w v l) {fs : List Nat} (hF : Fr fs w w') (hn : ∀ a n c, v = .slice (some a) n c → 1 ≤ n → a.block ∉ fs) : Ins w' v l := by
  obtain ⟨a, c, rfl, h1, h2, h3⟩ := h
  refine ⟨a, c, rfl, h1, h2, fun h4 => ?_⟩
  obtain ⟨b, o, rfl, h5⟩ := h3 h4
  exact ⟨b, o, rfl, fun j hj => hF.cell (h5 j hj) (hn ⟨b, o, none⟩ _ _ rfl h4)⟩

/-- A picker: picks that are left, in memory of somebody else, below B. -/
def Picks (w : World) (pk B : Nat) (l : List Int) : Prop := ∃ v, w.cell? ⟨pk, 0, none⟩ = some v ∧ w.frozen? ⟨pk, 0, none⟩ = false ∧ Ins w v l ∧ ∀ a n c, v = .slice (some a) n c → 1 ≤ n → a.block ≠ pk ∧ a.block < B
theorem Fr.frozen {fs : List Nat} {w w' : World} (h : Fr fs w w') {a : Addr} (ha : a.block < w.heap.size) (hn : a.block ∉ fs) : w'.frozen? a = w.frozen? a := by
  unfold World.frozen?
  rw [h.2.2 a.block ha hn]
theorem Picks.fr {w w' : World} {pk B : Nat} {l : List Int} (h : Picks w pk B l) {fs : List Nat} (hF : Fr fs w w') (hpk : pk ∉ fs) (hB : ∀ k ∈ fs, B ≤ k) : Picks w' pk B l := by
  obtain ⟨v, h1, h2, h3, h4⟩ := h
  have hlt := World.block_lt_of_cell? _ _ h1
  exact ⟨v, hF.cell h1 hpk, (hF.frozen hlt hpk).trans h2, h3.on1 hF (fun a n c e hn hk => by have := (h4 a n c e hn).2; have := hB _ hk; omega), h4⟩
theorem Picks.on {w w' : World} {pk B : Nat} {l : List Int} (h : Picks w pk B l) (hb : Below w.heap.size w w') : Picks w' pk B l := h.fr (Fr.of_below (fs := []) hb) (by simp) (by simp)

theorem picks_set {w : World} {pk b o n c B : Nat} {r : List Int} {u : Value} (c0 : w.cell? ⟨pk, 0, none⟩ = some u) (hf : w.frozen? ⟨pk, 0, none⟩ = false) (hbp : b ≠ pk) (hbB : b < B) (hn : n = r.length) (hc : r.length ≤ c) (hcm : c ≤ 9223372036854775807)
    (h : 1 ≤ r.length → ∀ j, j < r.length → w.cell? ⟨b, o + j, none⟩ = some (.int .i64 (r.getD j 0))) : Picks (w.setCell ⟨pk, 0, none⟩ (.slice (some ⟨b, o, none⟩) n c)) pk B r := by
  refine ⟨_, World.cell?_setCell_same _ _ _ c0, by rw [World.frozen?_setCell]; exact hf, ⟨some ⟨b, o, none⟩, c, by rw [hn], hc, hcm, fun h1 => ⟨b, o, rfl, fun j hj => (Fr.of_set w ⟨pk, 0, none⟩ _).cell (h h1 j hj) (by simpa using hbp)⟩⟩, fun a n' c' e _ => ?_⟩
  have : (⟨b, o, none⟩ : Addr) = a := by simpa using (by simpa using e : (⟨b, o, none⟩ : Addr) = a ∧ _).1
  rw [← this]
  exact ⟨hbp, hbB⟩

set_option maxRecDepth 100000 in
set_option maxHeartbeats 400000 in
theorem next_any (pk B : Nat) (l : List Int) (w : World) (h : Picks w pk B l) :
    Calls Try.prog 82 #[.pointer (some ⟨pk, 0, none⟩)] w fun e w' => e = .returned (.int .i64 (l.headD 0)) ∧ Picks w' pk B l.tail ∧ Fr [pk] w w' := by
  have HP := Hid.mk' h
  obtain ⟨v, c0, hf, ⟨a, c, rfl, hc, hcm, hrow⟩, hne⟩ := h
  cases l with
  | nil =>
    clear hrow hne
    go_enter Try.func82, Try.ntmps82
    go_wp2
    go_ret
    exact ⟨rfl, HP.out, Fr.refl _ _⟩
  | cons x r =>
    obtain ⟨b, o, rfl, hcell⟩ := hrow (by simp)
    have hz : ((((x :: r).length : Nat) : Int) == 0) = false := by rw [beq_eq_false_iff_ne]; simp; omega
    have c1 := hcell 0 (by simp)
    have hcl := hcell
    simp only [Nat.add_zero, List.getD_cons_zero] at c1
    have HH := Hid.mk' hcl
    obtain ⟨hbp, hbB⟩ : b ≠ pk ∧ b < B := hne ⟨b, o, none⟩ _ _ rfl (by simp)
    obtain ⟨n, hn⟩ : ∃ n, (x :: r).length = n := ⟨_, rfl⟩
    have hn1 : 1 ≤ n := by rw [← hn]; simp
    rw [hn] at c0 hz hc
    have HN := Hid.mk' hn
    have HF := Hid.mk' hf
    clear hrow hne hcell hcl hn HP
    go_enter Try.func82, Try.ntmps82
    go_wp2
    · have hc1 : c = 1 := by assumption
      go_ret
      have hl := HN.out
      simp only [List.length_cons] at hl
      have hr0 : r.length = 0 := by omega
      exact ⟨rfl, picks_set c0 HF.out hbp hbB (by omega) (by omega) (by omega) (fun h1 => by omega), (Fr.of_set w ⟨pk, 0, none⟩ _)⟩
    · go_ret
      have hl := HN.out
      simp only [List.length_cons] at hl
      refine ⟨rfl, picks_set c0 HF.out hbp hbB (by omega) (by omega) (by omega) (fun _ j hj => ?_), (Fr.of_set w ⟨pk, 0, none⟩ _)⟩
      have := HH.out (j + 1) (by simp; omega)
      rw [List.getD_cons_succ] at this
      rw [show o + 1 + j = o + (j + 1) by omega]
      exact this
end Go.Proofs.Ythkjjebghfcgkaa
