/-
  The parser's call joined.
-/
import Derived.Test.YtmepkmhfjgocgaaGreatDoorZl
namespace Go.Proofs.YtmepkmhfjgocgaaGreatDoor
open Go.ChangeShapes Go.WideShapes Go.ChangeAt Go.RowKit Go.Deep

/-- Within joined: an expression stands, so many more rounds at most are to come; or there is none. -/
def Jn (w wr : World) (p g o : Nat) (T : TypeId) (cur : List Value) (d : Int) (r : Z.Rs Z.Ex) (k : Nat) (n : Int) (B : Nat) (b : Bool) (c : Nat) : Prop :=
  Fr [p, g] w wr ∧ match b with
    | false => r = none ∧ PF wr p d
    | true => ∃ R m x cs, PE w wr p R d m g o T cur cs ∧ ShE wr (fun b => w.heap.size ≤ b ∧ b < wr.heap.size) x cs ∧ r = Z.joinF (Z.lv k) n d c R m x ∧ R.length < c ∧ R.length ≤ B

theorem cs_form {w : World} {ok : Nat → Prop} {x : Z.Ex} {cs : List Value} (h : ShE w ok x cs) : ∃ a0 a1 a2 a3 a4 a5 a6, cs = [a0, a1, a2, a3, a4, a5, a6] := by
  have := h.len
  match cs, this with
  | [a0, a1, a2, a3, a4, a5, a6], _ => exact ⟨_, _, _, _, _, _, _, rfl⟩

theorem PE.set7 {w0 w : World} {p : Nat} {R : List L.Tok} {d m : Int} {g o : Nat} {T : TypeId} {cur : List Value} {a0 a1 a2 a3 a4 a5 a6 : Value} (h : PE w0 w p R d m g o T cur [a0, a1, a2, a3, a4, a5, a6]) (b0 b1 b2 b3 b4 b5 b6 : Value) :
    PE w0 (((((((w.setCell ⟨g, o, none⟩ b0).setCell ⟨g, o + 1, none⟩ b1).setCell ⟨g, o + 2, none⟩ b2).setCell ⟨g, o + 3, none⟩ b3).setCell ⟨g, o + 4, none⟩ b4).setCell ⟨g, o + 5, none⟩ b5).setCell ⟨g, o + 6, none⟩ b6) p R d m g o T cur [b0, b1, b2, b3, b4, b5, b6] :=
  ((((((h.set 0 b0).set 1 b1).set 2 b2).set 3 b3).set 4 b4).set 5 b5).set 6 b6

theorem Fr.set7 (w : World) (g o : Nat) (b0 b1 b2 b3 b4 b5 b6 : Value) :
    Fr [g] w (((((((w.setCell ⟨g, o, none⟩ b0).setCell ⟨g, o + 1, none⟩ b1).setCell ⟨g, o + 2, none⟩ b2).setCell ⟨g, o + 3, none⟩ b3).setCell ⟨g, o + 4, none⟩ b4).setCell ⟨g, o + 5, none⟩ b5).setCell ⟨g, o + 6, none⟩ b6) :=
  ((((((Fr.of_set w ⟨g, o, none⟩ b0).trans (Fr.of_set _ ⟨g, o + 1, none⟩ b1) (by simp)).trans (Fr.of_set _ ⟨g, o + 2, none⟩ b2) (by simp)).trans (Fr.of_set _ ⟨g, o + 3, none⟩ b3) (by simp)).trans (Fr.of_set _ ⟨g, o + 4, none⟩ b4) (by simp)).trans (Fr.of_set _ ⟨g, o + 5, none⟩ b5) (by simp)).trans (Fr.of_set _ ⟨g, o + 6, none⟩ b6) (by simp)

/-- A round with an operation of one expression. -/
theorem Jn.un {w w3 : World} {p g o : Nat} {T : TypeId} {cur : List Value} {d : Int} {r : Z.Rs Z.Ex} {k : Nat} {n op m1 : Int} {B c2 : Nat} {R2 : List L.Tok} {x : Z.Ex} {a0 a1 a2 a3 a4 a5 a6 : Value} (HP3 : PE w w3 p R2 d m1 g o T cur [a0, a1, a2, a3, a4, a5, a6])
    (HS3 : ShE w3 (fun b => w.heap.size ≤ b ∧ b < w3.heap.size) x [a0, a1, a2, a3, a4, a5, a6]) (hr : r = Z.joinF (Z.lv k) n d c2 R2 m1 (Z.app op [x])) (h1 : R2.length < c2) (h2 : R2.length ≤ B) (hg : g < w.heap.size) :
    Jn w ((((((((w3.setCell ⟨g, o, none⟩ (.int .i64 op)).setCell ⟨g, o + 1, none⟩ (.int .i64 0)).setCell ⟨g, o + 2, none⟩ (.int .i64 0)).setCell ⟨g, o + 3, none⟩ (.string ⟨#[]⟩)).setCell ⟨g, o + 4, none⟩ (.string ⟨#[]⟩)).setCell ⟨g, o + 5, none⟩ (.string ⟨#[]⟩)).setCell ⟨g, o + 6, none⟩ (.slice (some ⟨w3.heap.size, 0, none⟩) 1 1)).alloc
      (.cells #[a0, a1, a2, a3, a4, a5, a6] 56)) p g o T cur d r k n B true c2 := by
  have h7 := HP3.set7 (.int .i64 op) (.int .i64 0) (.int .i64 0) (.string ⟨#[]⟩) (.string ⟨#[]⟩) (.string ⟨#[]⟩) (.slice (some ⟨w3.heap.size, 0, none⟩) 1 1)
  have hf7 := Fr.set7 w3 g o (.int .i64 op) (.int .i64 0) (.int .i64 0) (.string ⟨#[]⟩) (.string ⟨#[]⟩) (.string ⟨#[]⟩) (.slice (some ⟨w3.heap.size, 0, none⟩) 1 1)
  have hz : (((((((w3.setCell ⟨g, o, none⟩ (.int .i64 op)).setCell ⟨g, o + 1, none⟩ (.int .i64 0)).setCell ⟨g, o + 2, none⟩ (.int .i64 0)).setCell ⟨g, o + 3, none⟩ (.string ⟨#[]⟩)).setCell ⟨g, o + 4, none⟩ (.string ⟨#[]⟩)).setCell ⟨g, o + 5, none⟩ (.string ⟨#[]⟩)).setCell ⟨g, o + 6, none⟩ (.slice (some ⟨w3.heap.size, 0, none⟩) 1 1)).heap.size = w3.heap.size := by simp
  generalize ((((((w3.setCell ⟨g, o, none⟩ (.int .i64 op)).setCell ⟨g, o + 1, none⟩ (.int .i64 0)).setCell ⟨g, o + 2, none⟩ (.int .i64 0)).setCell ⟨g, o + 3, none⟩ (.string ⟨#[]⟩)).setCell ⟨g, o + 4, none⟩ (.string ⟨#[]⟩)).setCell ⟨g, o + 5, none⟩ (.string ⟨#[]⟩)).setCell ⟨g, o + 6, none⟩ (.slice (some ⟨w3.heap.size, 0, none⟩) 1 1) = w7 at h7 hf7 hz ⊢
  have h8 := h7.keep (Fr.of_alloc _ (.cells #[a0, a1, a2, a3, a4, a5, a6] 56))
  have hf8 := hf7.trans (Fr.of_alloc (fs := []) w7 (.cells #[a0, a1, a2, a3, a4, a5, a6] 56)) (by simp)
  refine ⟨h8.2.2.1, R2, m1, Z.app op [x], _, h8, ?_, hr, h1, h2⟩
  have hs := HS3.fr (lo' := w.heap.size) hf8 (Nat.le_refl _) (by simpa using hg)
  have hlt := h8.1.lt
  have h77 := h8.1.2.1
  have hw := HP3.2.2.1.2.1
  refine ShE.app1' op (g := w3.heap.size) ⟨?_, by exact of_decide_eq_true rfl, by decide, by decide, by have := HP3.1.lt; have := HP3.1.2.1; omega⟩ hs ⟨hw, by simp; omega⟩
  rw [lput_whole (l := zE) (K := [a0, a1, a2, a3, a4, a5, a6]) rfl, ← hz]
  exact heap_alloc_new w7 _

/-- A round with an operation of two expressions. -/
theorem Jn.bin {w w3 w5 w7 : World} {p g o gB cap : Nat} {T : TypeId} {cur curB : List Value} {d : Int} {r rr : Z.Rs Z.Ex} {k : Nat} {n op m1 : Int} {B c2 : Nat} {R2 : List L.Tok} {x : Z.Ex} {b : Bool} {a0 a1 a2 a3 a4 a5 a6 : Value} (HP3 : PE w w3 p R2 d m1 g o T cur [a0, a1, a2, a3, a4, a5, a6])
    (HS3 : ShE w3 (fun b => w.heap.size ≤ b ∧ b < w3.heap.size) x [a0, a1, a2, a3, a4, a5, a6])
    (HB : w3.heap.size ≤ gB ∧ Fr [] w3 w5 ∧ EL w5 gB 7 56 curB zE ∧ curB.take 7 = [a0, a1, a2, a3, a4, a5, a6] ∧ 2 ≤ cap ∧ cap ≤ maxLen ∧ curB.length = cap * 7)
    (hr : r = match rr with
      | none => none
      | some (b, R2, m2) => Z.joinF (Z.lv k) n d c2 R2 m2 (Z.app op [x, b]))
    (h7 : Out w5 p gB 7 56 curB d rr (.returned (.bool b)) w7)
    (hl : ∀ y R3 m3, rr = some (y, R3, m3) → R3.length ≤ R2.length) (h1 : R2.length < c2) (h2 : R2.length ≤ B) (hg : g < w.heap.size) (hp : p < w.heap.size) :
    EL w7 g o T cur [a0, a1, a2, a3, a4, a5, a6] ∧
    Jn w (((((((w7.setCell ⟨g, o, none⟩ (.int .i64 op)).setCell ⟨g, o + 1, none⟩ (.int .i64 0)).setCell ⟨g, o + 2, none⟩ (.int .i64 0)).setCell ⟨g, o + 3, none⟩ (.string ⟨#[]⟩)).setCell ⟨g, o + 4, none⟩ (.string ⟨#[]⟩)).setCell ⟨g, o + 5, none⟩ (.string ⟨#[]⟩)).setCell ⟨g, o + 6, none⟩ (.slice (some ⟨gB, 0, none⟩) 2 cap))
      p g o T cur d r k n B b c2 := by
  obtain ⟨b1, b2, b3, b4, b5, b6, b7⟩ := HB
  obtain ⟨hf, h7⟩ := h7
  have hw3 := HP3.2.2.1.2.1
  have P5 := HP3.keep b2
  have hne := P5.2.1.ne P5.1
  have hgB : g ≠ gB := by omega
  have E7 : EL w7 g o T cur [a0, a1, a2, a3, a4, a5, a6] := P5.2.1.fr hf (by simp; exact ⟨hne, hgB⟩)
  refine ⟨E7, ?_⟩
  have hf7 := Fr.set7 w7 g o (.int .i64 op) (.int .i64 0) (.int .i64 0) (.string ⟨#[]⟩) (.string ⟨#[]⟩) (.string ⟨#[]⟩) (.slice (some ⟨gB, 0, none⟩) 2 cap)
  have hF : Fr [p, g] w w7 := P5.2.2.1.trans hf (by simp; omega)
  cases rr with
  | none =>
    obtain ⟨h8, v, mm, h9⟩ := h7
    obtain rfl : b = false := by simpa using h8
    exact ⟨hF.trans hf7 (by simp), hr, v, mm, hf7.row h9 (by simpa using hne.symm)⟩
  | some q =>
    obtain ⟨y, R3, m3⟩ := q
    obtain ⟨h8, h9, cs2, h10, h11⟩ := h7
    obtain rfl : b = true := by simpa using h8
    have hle := hl y R3 m3 rfl
    have P7 : PE w w7 p R3 d m3 g o T cur [a0, a1, a2, a3, a4, a5, a6] := by
      refine ⟨h9, E7, hF, fun v X hv => (P5.2.2.2 v X hv).fr hf fun k hk cur' hc => ?_⟩
      simp only [List.mem_cons, List.not_mem_nil, or_false] at hk
      rcases hk with rfl | rfl
      · obtain ⟨_, _, v2, hb, _⟩ := P5.1
        unfold PB at hb
        rw [hb] at hc
        simp at hc
      · rw [b3.1] at hc
        simp at hc
    have h77 := P7.set7 (.int .i64 op) (.int .i64 0) (.int .i64 0) (.string ⟨#[]⟩) (.string ⟨#[]⟩) (.string ⟨#[]⟩) (.slice (some ⟨gB, 0, none⟩) 2 cap)
    have hz := hf7.2.1
    have hs7 := hf.2.1
    have hs5 := b2.2.1
    refine ⟨hF.trans hf7 (by simp), R3, m3, Z.app op [x, y], _, h77, ?_, hr, by omega, by omega⟩
    refine ShE.app2 op (h10.fr hf7 (by simpa using fun e => hgB e.symm)) b4 b5 b6 b7 (ShE.on (fun c hc => ?_) x _ HS3) (h11.fr hf7 (by omega) (by simp; omega)) ⟨by omega, by have := h10.lt; omega⟩
    refine ⟨⟨hc.1, by omega⟩, ?_⟩
    rw [hf7.2.2 c (by omega) (by simp; omega), hf.2.2 c (by omega) (by simp; omega), b2.2.2 c hc.2 (by simp)]

theorem joinF_none {F : Int → Int → List L.Tok → Int → Z.Rs Z.Ex} {n d : Int} {c : Nat} {R : List L.Tok} {m : Int} {x : Z.Ex} (h : Z.joint n R = none) : Z.joinF F n d (c + 1) R m x = some (x, R, m) := by
  unfold Z.joinF
  rw [h]
theorem joinF_un {F : Int → Int → List L.Tok → Int → Z.Rs Z.Ex} {n d op : Int} {c : Nat} {R R1 : List L.Tok} {m : Int} {x : Z.Ex} (h : Z.joint n R = some (op, R1)) (ho : op = 5 ∨ op = 6) : Z.joinF F n d (c + 1) R m x = Z.joinF F n d c R1 m (Z.app op [x]) := by
  conv => lhs; unfold Z.joinF
  rw [h]
  rcases ho with rfl | rfl <;> rfl
theorem joinF_bin {F : Int → Int → List L.Tok → Int → Z.Rs Z.Ex} {n d op : Int} {c : Nat} {R R1 : List L.Tok} {m : Int} {x : Z.Ex} (h : Z.joint n R = some (op, R1)) (h5 : op ≠ 5) (h6 : op ≠ 6) : Z.joinF F n d (c + 1) R m x = match F (n + 1) d R1 m with
    | none => none
    | some (b, R2, m2) => Z.joinF F n d c R2 m2 (Z.app op [x, b]) := by
  conv => lhs; unfold Z.joinF
  rw [h]
  have e : (op == 5 || op == 6) = false := by simp [h5, h6]
  simp only [e]
  rfl

set_option maxRecDepth 100000 in
set_option maxHeartbeats 2000000 in
theorem joined_any {k : Nat} (HL : LevelC k) {w : World} {p : Nat} {R : List L.Tok} {d m : Int} (h : PS w p R d m) (hd : 0 ≤ d) (hdR : d + R.length ≤ 1000000) (n : Int) (hn0 : 0 ≤ n) (hn : n ≤ 7) (hk : 10 * (R.length : Int) + 9 - n ≤ k + 1) {g o : Nat} {T : TypeId} {cur : List Value} (he : EL w g o T cur zE) :
    Calls Tryz.prog 217 #[.pointer (some ⟨p, 0, none⟩), .int .i64 n, .pointer (some ⟨g, o, none⟩)] w (Out w p g o T cur d (Z.joined (Z.lv k) n d R m)) := by
  have HC := Hid.mk' (HL h hd hdR (n + 1) (by omega) (by omega) (by omega) he)
  have HP := Hid.mk' (PE.start h he)
  have hpl : Hid (Z.joined (Z.lv k) n d R m = match Z.lv k (n + 1) d R m with
    | none => none
    | some (e, R1, m1) => Z.joinF (Z.lv k) n d (R1.length + 1) R1 m1 e) := rfl
  obtain ⟨r, hr⟩ : ∃ r, Z.joined (Z.lv k) n d R m = r := ⟨_, rfl⟩
  rw [hr] at hpl
  rw [hr]
  have hgw := he.lt
  have hpw := h.lt
  have hne := he.ne h
  have hn9 : n + 1 ≤ 9 := by omega
  clear h he hr
  go_enter Tryz.func217, Tryz.ntmps217
  go_wp2_with fail
  refine (HC.out).mono ?_
  intro e w2 h2
  obtain ⟨b, c, rfl, hJ⟩ : ∃ b c, e = .returned (.bool b) ∧ Jn w w2 p g o T cur d r k n R.length b c := by
    obtain ⟨hf, h2⟩ := h2
    have hpl := hpl.out
    cases hl : Z.lv k (n + 1) d R m with
    | none =>
      rw [hl] at h2 hpl
      exact ⟨false, 0, h2.1, hf, hpl, h2.2⟩
    | some q =>
      obtain ⟨x, R1, m1⟩ := q
      have hle := Z.lv_less k _ _ _ _ _ _ _ hl
      rw [hl] at h2 hpl
      obtain ⟨h3, h4, cs, h5, h6⟩ := h2
      refine ⟨true, R1.length + 1, h3, hf, R1, m1, x, cs, ⟨h4, h5, hf, ?_⟩, h6, hpl, by omega, hle⟩
      intro v X hv
      refine hv.fr hf fun k hk cur' hc => ?_
      simp only [List.mem_cons, List.not_mem_nil, or_false] at hk
      rcases hk with rfl | rfl
      · obtain ⟨_, _, v2, hb, _⟩ := HP.out.1
        unfold PB at hb
        rw [hb] at hc
        simp at hc
      · rw [HP.out.2.1.1] at hc
        simp at hc
        exact HP.out.2.1.2.2.1 hc.2
  have HJ := Hid.mk' hJ
  clear hJ h2 HC hpl
  go_wp2
  go_loopg [7] c (fun c' s7 wr => ∃ b : Bool, s7 = .bool b ∧ Hid (Jn w wr p g o T cur d r k n R.length b c'))
  case atStart => exact ⟨b, rfl, HJ⟩
  case round =>
    obtain ⟨b, rfl, HJ⟩ := hrel
    cases b
    · obtain ⟨hf, hn1, hp1⟩ := HJ.out
      have HF := Hid.mk' hf
      have HPF := Hid.mk' hp1
      have HN := Hid.mk' hn1
      clear hf hp1 hn1 HJ
      go_wp2
      go_ret
      exact Out.no HN.out HF.out HPF.out
    · obtain ⟨hf, R1, m1, x, cs, hP, hs, hrr, hc1, hRB⟩ := HJ.out
      obtain ⟨a0, a1, a2, a3, a4, a5, a6, rfl⟩ := cs_form hs
      obtain ⟨c2, rfl⟩ : ∃ c2, gk = c2 + 1 := ⟨gk - 1, by omega⟩
      have HJo := Hid.mk' (joint_any hP.1 n)
      have HPE := Hid.mk' hP
      have HS := Hid.mk' hs
      have HR := Hid.mk' hrr
      have hwr := hf.2.1
      clear hP hs hrr hf HJ
      go_wp2_with fail
      refine (HJo.out).mono ?_
      rintro e w3 ⟨hf3, ⟨n2, rfl, hp3⟩ | ⟨op, R2, n2, ho, rfl, hp3⟩⟩
      · have HP3 := Hid.mk' (HPE.out.other hp3 hf3)
        have HS3 := Hid.mk' (HS.out.fr (lo' := w.heap.size) hf3 (Nat.le_refl _) (by simpa using hpw))
        have HR3 := Hid.mk' (HR.out.trans (joinF_none n2))
        clear hf3 hp3 n2 HJo
        go_wp2
        go_ret
        exact Out.yes HR3.out HP3.out.2.2.1 HP3.out.1 HP3.out.2.1 HS3.out
      · have HP3 := Hid.mk' (HPE.out.other hp3 hf3)
        have HS3 := Hid.mk' (HS.out.fr (lo' := w.heap.size) hf3 (Nat.le_refl _) (by simpa using hpw))
        have hw3 := hf3.2.1
        have hR2 := Z.joint_lt n2
        have hg3 := HP3.out.2.1.lt
        have f3 := HP3.out.2.1.fz
        obtain ⟨q0, q1, q2, q3, q4, q5, q6⟩ := HP3.out.2.1.at7
        have hop : (op == 0) = false := by simpa using ho
        have hways : (op = 5 ∨ op = 6) ∨ (op ≠ 5 ∧ op ≠ 6) := by omega
        clear hf3 HJo ho
        rcases hways with hw | ⟨h5, h6⟩
        · have HR3 := Hid.mk' (HR.out.trans (joinF_un n2 hw))
          have hq : (op != 5) = false ∨ ((op != 5) = true ∧ (op != 6) = false) := by rcases hw with rfl | rfl <;> decide
          clear hp3 n2 hw
          rcases hq with hq | ⟨hq, hq2⟩
          all_goals
            go_wp2
            go_roundg c2
            case measure => omega
            case rel => exact ⟨true, rfl, Hid.mk' (Jn.un HP3.out HS3.out HR3.out (by omega) (by omega) hgw)⟩
        · have hq : (op != 5) = true := by simpa using h5
          have hq2 : (op != 6) = true := by simpa using h6
          have h73 : 9 ≤ w3.heap.size := by have := HP3.out.1.lt; have := HP3.out.1.2.1; omega
          have HA := Hid.mk' (pair_args w3 h73 a0 a1 a2 a3 a4 a5 a6)
          have HR3 := Hid.mk' (HR.out.trans (joinF_bin n2 h5 h6))
          clear hp3 n2 h5 h6
          go_wp2_with (at_builtin; refine wpList_append_run rfl _ _ 26 26 rfl _ _ rfl rfl HA.out ?_; rintro v5 w5 ⟨gB, cap, curB, rfl, HB⟩)
          have hb := HB.out
          have hsz5 := hb.2.1.2.1
          have hC := HL (HP3.out.keep hb.2.1).1 hd (by omega) (n + 1) (by omega) (by omega) (by omega) hb.2.2.1
          clear hb
          refine hC.mono ?_
          intro e w7 h7
          obtain ⟨b2, rfl⟩ := h7.bool
          obtain ⟨E7, J7⟩ := Jn.bin (B := R.length) HP3.out HS3.out HB.out HR3.out h7 (fun y R3 m3 hl => Z.lv_less k _ _ _ _ _ _ _ hl) (by omega) (by omega) hgw hpw
          have HJ7 := Hid.mk' J7
          have hg7 := E7.lt
          have f7 := E7.fz
          obtain ⟨q0, q1, q2, q3, q4, q5, q6⟩ := E7.at7
          clear h7 J7 E7 hC
          go_wp2
          go_roundg c2
          case measure => omega
          case rel => exact ⟨b2, rfl, HJ7⟩
end Go.Proofs.YtmepkmhfjgocgaaGreatDoor
