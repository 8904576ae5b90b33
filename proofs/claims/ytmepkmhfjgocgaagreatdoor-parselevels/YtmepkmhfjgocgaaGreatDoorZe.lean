/-
  The parser's calls name, literal.
-/
import Derived.Test.YtmepkmhfjgocgaaGreatDoorZd
namespace Go.Proofs.YtmepkmhfjgocgaaGreatDoor
open Go.ChangeShapes Go.WideShapes Go.ChangeAt Go.RowKit Go.Deep

theorem name_ways (t : L.Tok) (R : List L.Tok) : (t.1 ≠ 1 ∧ Z.name (t :: R) = none) ∨ (t.1 = 1 ∧ Z.isName t.2.1 = false ∧ Z.name (t :: R) = none) ∨ (t.1 = 1 ∧ Z.isName t.2.1 = true ∧ Z.name (t :: R) = some (t.2.1, R)) := by
  unfold Z.name
  by_cases h : t.1 = 1
  · cases hk : Z.isName t.2.1
    · exact .inr (.inl ⟨h, rfl, by simp [hk]⟩)
    · exact .inr (.inr ⟨h, rfl, by simp [h, hk]⟩)
  · exact .inl ⟨h, by simp [h]⟩

set_option maxRecDepth 100000 in
set_option maxHeartbeats 1000000 in
theorem name_any {w : World} {p : Nat} {R : List L.Tok} {d m : Int} (h : PS w p R d m) {g o : Nat} {T : TypeId} {cur : List Value} {v0 : Value} (he : EL w g o T cur [v0]) :
    Calls Tryz.prog 69 #[.pointer (some ⟨p, 0, none⟩), .pointer (some ⟨g, o, none⟩)] w fun e w' => (Z.name R = none ∧ e = .returned (.bool false) ∧ w' = w) ∨
      ∃ s R1, Z.name R = some (s, R1) ∧ e = .returned (.bool true) ∧ PS w' p R1 d m ∧ EL w' g o T cur [.string (S s)] ∧ Fr [p, g] w w' := by
  have HP := Hid.mk' h
  have HE := Hid.mk' he
  have hne := he.ne h
  have hgl := he.lt
  have f2 := he.fz o
  have e0 : w.cell? ⟨g, o, none⟩ = some v0 := he.cell (j := 0) rfl
  obtain ⟨hg, h7, v, hb, hv⟩ := h
  obtain ⟨a, c, rfl, hl⟩ := hv.len
  obtain ⟨c0, c1, c2, fz, hlt⟩ := hb.cells
  have HV := Hid.mk' hv
  clear hb hv hg c1 c2 he
  cases R with
  | nil =>
    simp only [List.length_nil] at c0
    go_enter Tryz.func69, Tryz.ntmps69
    go_wp2
    go_ret
    exact .inl ⟨rfl, rfl, rfl⟩
  | cons t R =>
    obtain ⟨g0, o0, rfl, _, v1, v2, v3⟩ := HV.out.at 0 t rfl
    have hw := name_ways t R
    have HK := fun w => isname_is t.2.1 w
    simp only [Nat.zero_mul, Nat.add_zero] at v1 v2 v3
    obtain ⟨t1, t2, t3⟩ := t
    simp only at v1 v2 hw HK
    obtain ⟨n, hn⟩ : ∃ n, (((t1, t2, t3) : L.Tok) :: R).length = n := ⟨_, rfl⟩
    have hn' : n = R.length + 1 := by rw [← hn]; rfl
    have hn0 : ¬ n = 0 := by omega
    have hnz : ((n : Int) == 0) = false := by simp; omega
    have hn1 : (0 : Int) < (n : Int) := by omega
    rw [hn] at c0 hl
    clear v3
    rcases hw with ⟨k1, k2⟩ | ⟨k1, k2, k3⟩ | ⟨k1, k2, k3⟩
    · have q1 : (t1 != 1) = true := by simpa using k1
      have HN := Hid.mk' k2
      clear k2 k1
      clear hn hn'
      go_enter Tryz.func69, Tryz.ntmps69
      go_wp2
      go_ret
      exact .inl ⟨HN.out, rfl, rfl⟩
    · have HN := Hid.mk' k3
      rw [k2] at HK
      subst k1
      clear k2 k3 hn hn'
      generalize S t2 = s2 at v2 HK ⊢
      go_enter Tryz.func69, Tryz.ntmps69
      go_wp2_with fail
      refine (HK _).mono ?_
      rintro e w1 ⟨rfl, rfl⟩
      go_wp2
      go_ret
      exact .inl ⟨HN.out, rfl, rfl⟩
    · have HN := Hid.mk' k3
      rw [k2] at HK
      subst k1
      obtain ⟨a2, ha2⟩ : ∃ a2 : Option Addr, (if c = 1 then (some ⟨g0, o0, none⟩ : Option Addr) else Option.map (fun x : Addr => x.add (1 * 3)) (some (⟨g0, o0, none⟩ : Addr))) = a2 := ⟨_, rfl⟩
      obtain ⟨n2, hn2⟩ : ∃ n2, n - 1 = n2 := ⟨_, rfl⟩
      obtain ⟨cc, hcc⟩ : ∃ cc, c - 1 = cc := ⟨_, rfl⟩
      have hs1 := slice_tok (some ⟨g0, o0, none⟩) n c 1 1 rfl (by omega) a2 ha2 n2 cc hn2 hcc
      have HD := HV.out
      rw [hn] at HD
      replace HD := Hid.mk' (HD.drop 1 (by rw [hn]; omega) a2 ha2)
      rw [hn2, hcc] at HD
      clear k2 k3 hn hn' ha2 hn2 hcc
      obtain ⟨s2, hs2⟩ : ∃ s2, S t2 = s2 := ⟨_, rfl⟩
      have HS := Hid.mk' hs2
      rw [hs2] at v2 HK
      clear hs2
      go_enter Tryz.func69, Tryz.ntmps69
      go_wp2_with fail
      refine (HK _).mono ?_
      rintro e w1 ⟨rfl, rfl⟩
      go_wp2
      go_ret
      obtain ⟨r1, r2, r3⟩ := HP.out.stored HE.out (j := 0) (by simp) (.string s2)
      obtain ⟨r4, r5, r6⟩ := r1.passed r2 (HD.out.put HE.out (o + 0) (.string s2))
      exact .inr ⟨t2, R, HN.out, rfl, r4, by rw [HS.out]; exact r5, r3.trans r6 (by simp)⟩
end Go.Proofs.YtmepkmhfjgocgaaGreatDoor
