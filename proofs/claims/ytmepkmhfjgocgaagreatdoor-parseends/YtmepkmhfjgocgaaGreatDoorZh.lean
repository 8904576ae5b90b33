/-
  The parser's calls count, enclosed.
-/
import Derived.Test.YtmepkmhfjgocgaaGreatDoorMg4
namespace Go.Proofs.YtmepkmhfjgocgaaGreatDoor
open Go.ChangeShapes Go.WideShapes Go.ChangeAt Go.RowKit Go.Deep

set_option maxRecDepth 100000 in
set_option maxHeartbeats 1000000 in
theorem count_any {w : World} {p : Nat} {R : List L.Tok} {d m : Int} (h : PS w p R d m) {g o : Nat} {T : TypeId} {cur : List Value} (he : EL w g o T cur zE) :
    Calls Tryz.prog 242 #[.pointer (some ⟨p, 0, none⟩), .pointer (some ⟨g, o, none⟩)] w (Out w p g o T cur d (Z.count d R m)) := by
  have hgl := he.lt
  have f2 := he.fz
  have e0 : w.cell? ⟨g, o, none⟩ = some (.int .i64 0) := he.cell (j := 0) rfl
  have HE1 := Hid.mk' ((PE.start h he).set 0 (.int .i64 23))
  simp only [Nat.add_zero] at HE1
  have HT := Hid.mk' (take_any [42] (by decide) (by decide) HE1.out.1)
  have hpl : Hid (Z.count d R m = match Z.tk [42] R with
    | none => none
    | some R1 => some (Z.app 23 [], R1, m)) := rfl
  obtain ⟨r, hr⟩ : ∃ r, Z.count d R m = r := ⟨_, rfl⟩
  rw [hr] at hpl
  rw [hr]
  clear hr h he
  go_enter Tryz.func242, Tryz.ntmps242
  go_wp2_with fail
  refine (HT.out).mono ?_
  rintro e w3 ⟨hf3, ⟨n2, rfl, hp3⟩ | ⟨R2, n2, rfl, hp3⟩⟩
  all_goals
    have HE3 := Hid.mk' (HE1.out.other hp3 hf3)
    go_wp2
    go_ret
    have hpl := hpl.out
    rw [n2] at hpl
    subst hpl
  · exact Out.no rfl HE3.out.2.2.1 HE3.out.1.pf
  · exact Out.yes rfl HE3.out.2.2.1 HE3.out.1 HE3.out.2.1 (ShE.leaf _ _ _ _ _ _ _ _)

theorem PB.set {w : World} {p : Nat} {v : Value} {d m : Int} (h : PB w p v d m) : (∀ v', PB (w.setCell ⟨p, 0, none⟩ v') p v' d m) ∧ (∀ d', PB (w.setCell ⟨p, 1, none⟩ (.int .i64 d')) p v d' m) ∧ ∀ m', PB (w.setCell ⟨p, 2, none⟩ (.int .i64 m')) p v d m' :=
  ⟨fun _ => heap_setCell_same w p 0 _ _ _ h, fun _ => heap_setCell_same w p 1 _ _ _ h, fun _ => heap_setCell_same w p 2 _ _ _ h⟩
theorem PS.deep {w : World} {p : Nat} {R : List L.Tok} {d m : Int} (h : PS w p R d m) : (∀ d', PS (w.setCell ⟨p, 1, none⟩ (.int .i64 d')) p R d' m) ∧ ∀ m', PS (w.setCell ⟨p, 2, none⟩ (.int .i64 m')) p R d m' := by
  obtain ⟨hg, h7, v, hb, hv⟩ := h
  have no : ∀ k ∈ [p], ∀ cur, w.heap[k]? ≠ some (.cells cur 126 (0, 0)) := by
    intro k hk cur hc
    obtain rfl : k = p := by simpa using hk
    unfold PB at hb
    rw [hb] at hc
    simp at hc
  exact ⟨fun d' => ⟨hg.fr (Fr.of_set w ⟨p, 1, none⟩ _) (by simpa using h7), h7, v, hb.set.2.1 d', hv.fr (Fr.of_set w ⟨p, 1, none⟩ _) no⟩,
    fun m' => ⟨hg.fr (Fr.of_set w ⟨p, 2, none⟩ _) (by simpa using h7), h7, v, hb.set.2.2 m', hv.fr (Fr.of_set w ⟨p, 2, none⟩ _) no⟩⟩

/-- A tree in blocks from lo on is kept where elder blocks are turned. -/
theorem ShE.fr {w w' : World} {lo lo' : Nat} {fs : List Nat} {x : Z.Ex} {cs : List Value} (h : ShE w (fun b => lo ≤ b ∧ b < w.heap.size) x cs) (hf : Fr fs w w') (hlo : lo' ≤ lo) (hs : ∀ k ∈ fs, k < lo) : ShE w' (fun b => lo' ≤ b ∧ b < w'.heap.size) x cs :=
  ShE.on (fun b hb => ⟨⟨Nat.le_trans hlo hb.1, Nat.lt_of_lt_of_le hb.2 hf.2.1⟩, hf.2.2 b hb.2 (fun hk => by have := hs b hk; omega)⟩) x cs h
theorem PS.lt {w : World} {p : Nat} {R : List L.Tok} {d m : Int} (h : PS w p R d m) : p < w.heap.size := by
  obtain ⟨_, _, v, hb, _⟩ := h
  exact hb.cells.2.2.2.2

/-- A reader of expressions, as it is handed in. -/
def Reads (F : Nat) (f : Int → List L.Tok → Int → Z.Rs Z.Ex) (B : Nat) : Prop :=
  ∀ {w : World} {p : Nat} {R : List L.Tok} {d m : Int}, PS w p R d m → 0 ≤ d → d + R.length ≤ 1000000 → R.length < B → ∀ {g o : Nat} {T : TypeId} {cur : List Value}, EL w g o T cur zE →
    Calls Tryz.prog F #[.pointer (some ⟨p, 0, none⟩), .pointer (some ⟨g, o, none⟩)] w (Out w p g o T cur d (f d R m))

theorem callf_count (args : Array Value) (w : World) : (callFunc 242 args).run Tryz.prog w = .ok (.enter 242 args) w := by kernel_rfl
theorem callf_expr (args : Array Value) (w : World) : (callFunc 154 args).run Tryz.prog w = .ok (.enter 154 args) w := by kernel_rfl
theorem count_reads (B : Nat) : Reads 242 Z.count B := fun h _ _ _ _ _ _ _ he => count_any h he

set_option maxRecDepth 100000 in
set_option maxHeartbeats 1000000 in
theorem enclosed_any {F : Nat} (hcf : ∀ (args : Array Value) (w : World), (callFunc F args).run Tryz.prog w = .ok (.enter F args) w) {f : Int → List L.Tok → Int → Z.Rs Z.Ex} {B : Nat} (HF : Reads F f B) {w : World} {p : Nat} {R : List L.Tok} {d m : Int} (h : PS w p R d m) (hd : 0 ≤ d) (hdR : d + R.length < 1000000) (hB : R.length < B) {g o : Nat} {T : TypeId} {cur : List Value} (he : EL w g o T cur zE) :
    Calls Tryz.prog 241 #[.pointer (some ⟨p, 0, none⟩), .func (.func F) #[.pointer (some ⟨p, 0, none⟩)] #[], .pointer (some ⟨g, o, none⟩)] w (Out w p g o T cur d (Z.enc f d R m)) := by
  have hne := he.ne h
  have hd1 : d + 1 ≤ 2000000 := by omega
  have hP1 := h.deep.1 (d + 1)
  have hP2 := hP1.deep.2 (max m (d + 1))
  have hfr : Fr [p] w ((w.setCell ⟨p, 1, none⟩ (.int .i64 (d + 1))).setCell ⟨p, 2, none⟩ (.int .i64 (max m (d + 1)))) := (Fr.of_set w ⟨p, 1, none⟩ _).trans (Fr.of_set _ ⟨p, 2, none⟩ _) (by simp)
  have hE2 := he.fr hfr (by simpa using hne)
  have HR := Hid.mk' (HF (hP2.keep (w' := ((w.setCell ⟨p, 1, none⟩ (.int .i64 (d + 1))).setCell ⟨p, 2, none⟩ (.int .i64 (max m (d + 1)))).drew) (Fr.refl _ _)) (by omega) (by omega) hB (hE2.fr (fs := []) (Fr.refl _ _) (by simp)))
  have HE2 := Hid.mk' ((PE.start h he).other hP2 hfr)
  have hpl : Hid (Z.enc f d R m = match f (d + 1) R (max m (d + 1)) with
    | none => none
    | some (e, R1, m1) => match Z.tk [41] R1 with
      | none => none
      | some R2 => some (e, R2, m1)) := rfl
  obtain ⟨r, hr⟩ : ∃ r, Z.enc f d R m = r := ⟨_, rfl⟩
  rw [hr] at hpl
  rw [hr]
  obtain ⟨hg, h7, v, hb, hv⟩ := h
  obtain ⟨c0, c1, c2, fz, hlt⟩ := hb.cells
  clear hr he hb hv hg hP1 hP2 hE2 HF hfr
  go_enter Tryz.func241, Tryz.ntmps241
  go_wp2
  go_region
  go_wp2_with fail
  refine (HR.out).mono ?_
  rintro e w3 ⟨hf3, h3⟩
  cases hf : f (d + 1) R (max m (d + 1)) with
  | none =>
    rw [hf] at h3 hpl
    obtain ⟨rfl, v3, m3, hb3⟩ := h3
    obtain ⟨b0, b1, b2, bz, blt⟩ := hb3.cells
    have HF3 := Hid.mk' hf3
    have HB3 := Hid.mk' hb3
    clear hf3 hb3 HR
    go_wp2
    go_ret
    have hpl := hpl.out
    subst hpl
    exact Out.no rfl ((HE2.out.2.2.1.trans HF3.out (by simp)).trans (Fr.of_set w3 ⟨p, 1, none⟩ _) (by simp)) ⟨v3, m3, HB3.out.set.2.1 d⟩
  | some q =>
    obtain ⟨x, R1, m1⟩ := q
    rw [hf] at h3 hpl
    obtain ⟨rfl, hp3, cs, he3, hs3⟩ := h3
    have HT := Hid.mk' (take_any [41] (by decide) (by decide) hp3)
    have HS := Hid.mk' hs3
    have HEL := Hid.mk' he3
    have HF3 := Hid.mk' hf3
    clear hp3 he3 hs3 hf3 HR hf
    go_wp2_with fail
    refine (HT.out).mono ?_
    rintro e w4 ⟨hf4, ⟨n2, rfl, hp4⟩ | ⟨R2, n2, rfl, hp4⟩⟩
    all_goals
      have HP4 := Hid.mk' hp4
      have HF4 := Hid.mk' hf4
      have hpl := hpl.out
      simp only [n2] at hpl
      obtain ⟨_, _, v4, hb4, _⟩ := hp4
      obtain ⟨b0, b1, b2, bz, blt⟩ := hb4.cells
      clear hb4 hf4 HT n2
      go_wp2
      go_ret
      subst hpl
      have hF := (HE2.out.2.2.1.trans (HF3.out : Fr [p, g] ((w.setCell ⟨p, 1, none⟩ (.int .i64 (d + 1))).setCell ⟨p, 2, none⟩ (.int .i64 (max m (d + 1)))) w3) (by simp)).trans (HF4.out.trans (Fr.of_set w4 ⟨p, 1, none⟩ (.int .i64 d)) (by simp)) (by simp)
      have hF2 := HF4.out.trans (Fr.of_set w4 ⟨p, 1, none⟩ (.int .i64 d)) (by simp)
      have hP := HP4.out.deep.1 d
    · exact Out.no rfl hF hP.pf
    · have hs := HS.out
      have e : ((w.setCell ⟨p, 1, none⟩ (.int .i64 (d + 1))).setCell ⟨p, 2, none⟩ (.int .i64 (max m (d + 1)))).drew.heap.size = w.heap.size := by simp [World.drew]
      rw [e] at hs
      exact Out.yes rfl hF hP (HEL.out.fr hF2 (by simpa using hne)) (hs.fr hF2 (Nat.le_refl _) (by simpa using hlt))
end Go.Proofs.YtmepkmhfjgocgaaGreatDoor
