/-
  The items of the parser's lists: names, expressions, sets, keys, rows.
  The parser's calls set, orderKey, row.
  The parser's calls columnType, column, boxColumn.
-/
import Derived.Test.YtmepkmhfjgocgaaGreatDoorZr
namespace Go.Proofs.YtmepkmhfjgocgaaGreatDoor
open Go.ChangeShapes Go.WideShapes Go.ChangeAt Go.RowKit Go.Deep

/-- What a reader of expressions leaves is less than what there was. -/
def Z.Lt (F : Int → Int → List L.Tok → Int → Z.Rs Z.Ex) : Prop := ∀ n d R m x R1 m1, F n d R m = some (x, R1, m1) → R1.length < R.length
theorem Z.lv_lt (k : Nat) : Z.Lt (Z.lv k) := by
  induction k with
  | zero => intro n d R m x R1 m1 h; cases h
  | succ k ih =>
    have hle := Z.lv_less k
    have hs : ∀ {s : Z.W} {op n d : Int} {R : List L.Tok} {m : Int} {x : Z.Ex} {R1 : List L.Tok} {m1 : Int}, Z.signed (Z.lv k) s op n d R m = some (x, R1, m1) → R1.length < R.length := by
      intro s op n d R m x R1 m1 h
      unfold Z.signed at h
      split at h
      · exact ih _ _ _ _ _ _ _ h
      next R2 h2 =>
      have := Z.tk_le h2
      split at h
      · cases h
      next y R3 m3 h3 =>
      cases h
      have := ih _ _ _ _ _ _ _ h3
      omega
    have hc : ∀ d R m x R1 m1, Z.count d R m = some (x, R1, m1) → R1.length ≤ R.length := by
      intro d R m x R1 m1 h
      unfold Z.count at h
      split at h
      · cases h
      next R2 h2 => cases h; exact Z.tk_le h2
    intro n d R m x R1 m1 h
    unfold Z.lv at h
    split at h
    · exact hs h
    split at h
    · exact hs h
    split at h
    · unfold Z.closest at h
      split at h
      · next op R2 h2 =>
        have := Z.fun_lt h2
        split at h
        · cases h
        next y R3 m3 h3 =>
        cases h
        have := Z.enc_le (hle 0) h3
        omega
      split at h
      · next R2 h2 => have := Z.tk_lt (by decide) h2; have := Z.enc_le hc h; omega
      split at h
      · next R2 h2 => have := Z.tk_lt (by decide) h2; have := Z.enc_le (hle 0) h; omega
      split at h
      · next R2 h2 => cases h; exact Z.tk_lt (by decide) h2
      split at h
      · next y R2 h2 => cases h; exact Z.literal_lt h2
      split at h
      · next y R2 h2 => cases h; exact Z.place_lt h2
      · cases h
    · unfold Z.joined at h
      split at h
      · cases h
      next y R2 m2 h2 =>
      have := ih _ _ _ _ _ _ _ h2
      have := Z.joinF_le hle n d h
      omega

/-- The items, as they are read: at most k steps for an expression. -/
def Z.nameI (R : List L.Tok) (m : Int) : Z.Rs Z.W := match Z.name R with | none => none | some (s, R1) => some (s, R1, m)
def Z.exprI (k : Nat) (R : List L.Tok) (m : Int) : Z.Rs Z.Ex := Z.lv k 0 0 R m
def Z.setI (k : Nat) (R : List L.Tok) (m : Int) : Z.Rs (Z.W × Z.Ex) := match Z.name R with
  | none => none
  | some (s, R1) => match Z.tk [61] R1 with
    | none => none
    | some R2 => match Z.exprI k R2 m with
      | none => none
      | some (x, R3, m3) => some ((s, x), R3, m3)
def Z.keyI (k : Nat) (R : List L.Tok) (m : Int) : Z.Rs (Z.Ex × Bool) := match Z.exprI k R m with
  | none => none
  | some (x, R1, m1) => match Z.tk [100,101,115,99] R1 with
    | none => some ((x, false), R1, m1)
    | some R2 => some ((x, true), R2, m1)
def Z.rowI (k : Nat) (R : List L.Tok) (m : Int) : Z.Rs (List Z.Ex) := match Z.tk [40] R with
  | none => none
  | some R1 => match Z.list (Z.exprI k) R1 m with
    | none => none
    | some (l, R2, m2) => match Z.tk [41] R2 with
      | none => none
      | some R3 => some (l, R3, m2)

def ShStr : Shows Z.W := fun _ _ s cs => cs = [.string (S s)]
def ShSet : Shows (Z.W × Z.Ex) := fun w ok q cs => ∃ c2, cs = .string (S q.1) :: c2 ∧ ShE w ok q.2 c2
def ShKey : Shows (Z.Ex × Bool) := fun w ok q cs => ∃ c2, cs = c2 ++ [.bool q.2] ∧ ShE w ok q.1 c2
theorem ShStr.ok : ShOk ShStr 1 where
  on := fun _ _ _ h => h
  len := by rintro w ok x cs rfl; rfl
  one := by rintro w ok x cs rfl u hu; obtain rfl : u = .string (S x) := by simpa using hu
            rfl
theorem ShSet.ok : ShOk ShSet 8 where
  on := by rintro w w' ok ok' hk x cs ⟨c2, h1, h2⟩; exact ⟨c2, h1, ShE.on hk _ _ h2⟩
  len := by rintro w ok x cs ⟨c2, rfl, h2⟩; rw [List.length_cons, h2.len]
  one := by
    rintro w ok x cs ⟨c2, rfl, h2⟩ u hu
    rcases List.mem_cons.1 hu with rfl | hu
    · rfl
    · exact ShE.ok.one h2 u hu
theorem ShKey.ok : ShOk ShKey 8 where
  on := by rintro w w' ok ok' hk x cs ⟨c2, h1, h2⟩; exact ⟨c2, h1, ShE.on hk _ _ h2⟩
  len := by rintro w ok x cs ⟨c2, rfl, h2⟩; rw [List.length_append, h2.len]; rfl
  one := by
    rintro w ok x cs ⟨c2, rfl, h2⟩ u hu
    rcases List.mem_append.1 hu with hu | hu
    · exact ShE.ok.one h2 u hu
    · obtain rfl : u = .bool x.2 := by simpa using hu
      rfl
theorem ShE.form {w : World} {ok : Nat → Prop} {x : Z.Ex} {cs : List Value} (h : ShE w ok x cs) : ∃ i0 i1 i2 s3 s4 s5 a n c, cs = [.int .i64 i0, .int .i64 i1, .int .i64 i2, .string s3, .string s4, .string s5, .slice a n c] := by
  obtain ⟨op, vk, vi, vs, tb, nm, args⟩ := x
  unfold ShE at h
  obtain ⟨va, row, rfl, h2, _⟩ := h
  obtain ⟨a, c, rfl, _⟩ := owned_rows (P := Tryz.prog) h2
  exact ⟨_, _, _, _, _, _, _, _, _, rfl⟩
theorem ShStr.form {w : World} {ok : Nat → Prop} {x : Z.W} {cs : List Value} (h : ShStr w ok x cs) : ∃ s, cs = [.string s] := ⟨_, h⟩
theorem ShRow.form {α : Type} {Sh : Shows α} {T : TypeId} {sz : Nat} {w : World} {ok : Nat → Prop} {x : List α} {cs : List Value} (h : ShRow Sh T sz w ok x cs) : ∃ a n c, cs = [.slice a n c] := by
  obtain ⟨v, row, rfl, h2, _⟩ := h
  obtain ⟨a, c, rfl, _⟩ := owned_rows (P := Tryz.prog) h2
  exact ⟨_, _, _, rfl⟩

theorem OutI.no {α : Type} {Sh : Shows α} {w w' : World} {p g o : Nat} {T : TypeId} {cur : List Value} {d : Int} {r : Z.Rs α} (hr : r = none) (hf : Fr [p, g] w w') (hp : PF w' p d) : OutI Sh w p g o T cur d r (.returned (.bool false)) w' := by
  subst hr
  exact ⟨hf, rfl, hp⟩
theorem OutI.yes {α : Type} {Sh : Shows α} {w w' : World} {p g o : Nat} {T : TypeId} {cur : List Value} {d : Int} {r : Z.Rs α} {x : α} {R1 : List L.Tok} {m1 : Int} {cs : List Value} (hr : r = some (x, R1, m1)) (hf : Fr [p, g] w w') (hp : PS w' p R1 d m1) (he : EL w' g o T cur cs) (hs : Sh w' (fun b => w.heap.size ≤ b ∧ b < w'.heap.size) x cs) : OutI Sh w p g o T cur d r (.returned (.bool true)) w' := by
  subst hr
  exact ⟨hf, rfl, hp, cs, he, hs⟩

theorem exprI_reads (k B : Nat) (hB : 10 * ((B : Int) + 1) ≤ k + 1) (hB2 : B ≤ 1000000) : ReadsI ShE 154 (Z.exprI k) 0 zE B := by
  intro w p R m h hR g o T cur he
  exact ((expr_any k (B := B + 1) (by omega)) h (Int.le_refl 0) (by omega) (by omega) he).mono fun e w' h => OutI.of_out h
theorem exprI_lt (k : Nat) (R : List L.Tok) (m : Int) (x : Z.Ex) (R1 : List L.Tok) (m1 : Int) (h : Z.exprI k R m = some (x, R1, m1)) : R1.length < R.length := Z.lv_lt k _ _ _ _ _ _ _ h
theorem nameI_lt (R : List L.Tok) (m : Int) (x : Z.W) (R1 : List L.Tok) (m1 : Int) (h : Z.nameI R m = some (x, R1, m1)) : R1.length < R.length := by
  unfold Z.nameI at h
  split at h
  · cases h
  next s R2 h2 => cases h; exact Z.name_lt h2
theorem setI_lt (k : Nat) (R : List L.Tok) (m : Int) (x : Z.W × Z.Ex) (R1 : List L.Tok) (m1 : Int) (h : Z.setI k R m = some (x, R1, m1)) : R1.length < R.length := by
  unfold Z.setI at h
  split at h
  · cases h
  next s R2 h2 =>
  have := Z.name_lt h2
  split at h
  · cases h
  next R3 h3 =>
  have := Z.tk_le h3
  split at h
  · cases h
  next y R4 m4 h4 =>
  cases h
  have := exprI_lt _ _ _ _ _ _ h4
  omega
theorem keyI_lt (k : Nat) (R : List L.Tok) (m : Int) (x : Z.Ex × Bool) (R1 : List L.Tok) (m1 : Int) (h : Z.keyI k R m = some (x, R1, m1)) : R1.length < R.length := by
  unfold Z.keyI at h
  split at h
  · cases h
  next y R2 m2 h2 =>
  have := exprI_lt _ _ _ _ _ _ h2
  split at h
  · cases h; exact this
  next R3 h3 =>
  cases h
  have := Z.tk_le h3
  omega
theorem Z.listF_le {α : Type} {f : List L.Tok → Int → Z.Rs α} (hf : ∀ R m x R1 m1, f R m = some (x, R1, m1) → R1.length < R.length) : ∀ {c : Nat} {R R1 : List L.Tok} {m m1 : Int} {l l1 : List α}, Z.listF f c R m l = some (l1, R1, m1) → R1.length < R.length
  | 0, _, _, _, _, _, _, h => by cases h
  | c + 1, R, R1, m, m1, l, l1, h => by
    rw [Z.listF_step] at h
    split at h
    · cases h
    next x R2 m2 h2 =>
    have := hf _ _ _ _ _ h2
    split at h
    · cases h; exact this
    next R3 h3 =>
    have := Z.tk_le h3
    have := Z.listF_le hf h
    omega
theorem rowI_lt (k : Nat) (R : List L.Tok) (m : Int) (x : List Z.Ex) (R1 : List L.Tok) (m1 : Int) (h : Z.rowI k R m = some (x, R1, m1)) : R1.length < R.length := by
  unfold Z.rowI at h
  split at h
  · cases h
  next R2 h2 =>
  have := Z.tk_le h2
  split at h
  · cases h
  next l R3 m3 h3 =>
  have := Z.listF_le (exprI_lt k) h3
  split at h
  · cases h
  next R4 h4 =>
  cases h
  have := Z.tk_le h4
  omega

theorem name_reads (B : Nat) : ReadsI ShStr 69 Z.nameI 0 [.string ⟨#[]⟩] B := by
  intro w p R m h hR g o T cur he
  refine (name_any h he).mono fun e w' hq => ?_
  rcases hq with ⟨h1, rfl, rfl⟩ | ⟨s, R1, h1, rfl, h2, h3, h4⟩
  · exact OutI.no (by unfold Z.nameI; rw [h1]) (Fr.refl _ _) h.pf
  · exact OutI.yes (x := s) (R1 := R1) (m1 := m) (by unfold Z.nameI; rw [h1]) h4 h2 h3 rfl

theorem callf_name (args : Array Value) (w : World) : (callFunc 69 args).run Tryz.prog w = .ok (.enter 69 args) w := by kernel_rfl
theorem callf_set (args : Array Value) (w : World) : (callFunc 74 args).run Tryz.prog w = .ok (.enter 74 args) w := by kernel_rfl
theorem callf_key (args : Array Value) (w : World) : (callFunc 156 args).run Tryz.prog w = .ok (.enter 156 args) w := by kernel_rfl
theorem callf_row (args : Array Value) (w : World) : (callFunc 71 args).run Tryz.prog w = .ok (.enter 71 args) w := by kernel_rfl
theorem callf_column (args : Array Value) (w : World) : (callFunc 150 args).run Tryz.prog w = .ok (.enter 150 args) w := by kernel_rfl
theorem callf_box (args : Array Value) (w : World) : (callFunc 151 args).run Tryz.prog w = .ok (.enter 151 args) w := by kernel_rfl

theorem lput_cons {a : Value} {cs K : List Value} (h : cs.length = K.length) : lput (a :: K) 1 cs = a :: cs := by
  unfold lput
  simp [h]
  omega
theorem lput_front {cs K : List Value} {a : Value} (h : cs.length = K.length) : lput (K ++ [a]) 0 cs = cs ++ [a] := by
  unfold lput
  simp [h]

/-- A part of the piece was read by another call. -/
theorem PE.of_out {α : Type} {Sh : Shows α} {w0 w w' : World} {p : Nat} {R R1 : List L.Tok} {d m m1 : Int} {g o : Nat} {T : TypeId} {cur K : List Value} (h : PE w0 w p R d m g o T cur K) {j : Nat} {x : α} {r : Z.Rs α} {e : Ending} (hr : r = some (x, R1, m1)) (hq : OutI Sh w p g (o + j) T (lput cur o K) d r e w') {sz : Nat} (hS : ShOk Sh sz) (hj : j + sz ≤ K.length) :
    e = .returned (.bool true) ∧ ∃ cs, PE w0 w' p R1 d m1 g o T cur (lput K j cs) ∧ cs.length = sz ∧ Sh w' (fun b => w.heap.size ≤ b ∧ b < w'.heap.size) x cs := by
  subst hr
  obtain ⟨h1, h2, h3, cs, h4, h5⟩ := hq
  have hl := hS.len h5
  exact ⟨h2, cs, h.part (by rw [hl]; exact hj) h3 h4 h1, hl, h5⟩
theorem PE.of_whole {α : Type} {Sh : Shows α} {w0 w w' : World} {p : Nat} {R R1 : List L.Tok} {d m m1 : Int} {g o : Nat} {T : TypeId} {cur K : List Value} (h : PE w0 w p R d m g o T cur K) {x : α} {r : Z.Rs α} {e : Ending} (hr : r = some (x, R1, m1)) (hq : OutI Sh w p g o T cur d r e w') :
    e = .returned (.bool true) ∧ ∃ cs, PE w0 w' p R1 d m1 g o T cur cs ∧ Sh w' (fun b => w.heap.size ≤ b ∧ b < w'.heap.size) x cs := by
  subst hr
  obtain ⟨h1, h2, h3, cs, h4, h5⟩ := hq
  refine ⟨h2, cs, ⟨h3, h4, h.2.2.1.trans h1 (by simp), fun u X hu => ?_⟩, h5⟩
  obtain ⟨_, _, v2, hb, _⟩ := h.1
  exact (h.2.2.2 u X hu).two hb h.2.1 h1
theorem PE.of_no {α : Type} {Sh : Shows α} {w0 w w' : World} {p : Nat} {R : List L.Tok} {d m : Int} {g o o' : Nat} {T T' : TypeId} {cur cur' K : List Value} (h : PE w0 w p R d m g o T cur K) {r : Z.Rs α} {e : Ending} (hr : r = none) (hq : OutI Sh w p g o' T' cur' d r e w') :
    e = .returned (.bool false) ∧ Fr [p, g] w0 w' ∧ PF w' p d := by
  subst hr
  obtain ⟨h1, h2, h3⟩ := hq
  exact ⟨h2, h.2.2.1.trans h1 (by simp), h3⟩

set_option maxRecDepth 100000 in
set_option maxHeartbeats 1000000 in
theorem set_reads (k B : Nat) (hB : 10 * ((B : Int) + 1) ≤ k + 1) (hB2 : B ≤ 400000) : ReadsI ShSet 74 (Z.setI k) 0 (.string ⟨#[]⟩ :: zE) B := by
  intro w p R m h hR g o T cur he
  have HP := Hid.mk' (PE.start h he)
  have hgl := he.lt
  have HN := Hid.mk' (name_any h (he.sub 0 [.string ⟨#[]⟩] (by decide) rfl))
  simp only [Nat.add_zero] at HN
  have hpl : Hid (Z.setI k R m = match Z.name R with
    | none => none
    | some (s, R1) => match Z.tk [61] R1 with
      | none => none
      | some R2 => match Z.exprI k R2 m with
        | none => none
        | some (x, R3, m3) => some ((s, x), R3, m3)) := rfl
  obtain ⟨r, hr⟩ : ∃ r, Z.setI k R m = r := ⟨_, rfl⟩
  rw [hr] at hpl
  rw [hr]
  have hnl : ∀ s R1, Z.name R = some (s, R1) → R1.length < R.length := fun _ _ h => Z.name_lt h
  clear h he hr
  go_enter Tryz.func74, Tryz.ntmps74
  go_wp2_with fail
  refine (HN.out).mono ?_
  rintro e w2 (⟨n1, rfl, rfl⟩ | ⟨s, R1, n1, rfl, hp2, he2, hf2⟩)
  · have hq := hpl.out
    rw [n1] at hq
    have HQ := Hid.mk' hq
    clear hq hpl n1 HN hnl
    go_wp2
    go_ret
    exact OutI.no HQ.out HP.out.2.2.1 HP.out.1.pf
  · have HE2 := Hid.mk' (HP.out.part (j := 0) (M := [.string (S s)]) (by exact of_decide_eq_true rfl) hp2 he2 hf2)
    have hl1 := hnl _ _ n1
    have HT := Hid.mk' (take_any [61] (by decide) (by decide) hp2)
    have hq := hpl.out
    rw [n1] at hq
    have HQ := Hid.mk' hq
    clear hq hpl n1 HN hnl hp2 he2 hf2
    go_wp2_with fail
    refine (HT.out).mono ?_
    rintro e w3 ⟨hf3, ⟨n2, rfl, hp3⟩ | ⟨R2, n2, rfl, hp3⟩⟩
    · have HE3 := Hid.mk' (HE2.out.other hp3 hf3)
      have hq := HQ.out
      simp only [n2] at hq
      have HQ2 := Hid.mk' hq
      clear hq HQ n2 HT hp3 hf3
      go_wp2
      go_ret
      exact OutI.no HQ2.out HE3.out.2.2.1 HE3.out.1.pf
    · have HE3 := Hid.mk' (HE2.out.other hp3 hf3)
      have hl2 := Z.tk_le n2
      have hg3 := HE3.out.2.1.lt
      have HX := Hid.mk' (exprI_reads k B hB (by omega) HE3.out.1 (by omega) (HE3.out.2.1.sub 1 zE (by exact of_decide_eq_true rfl) rfl))
      have hq := HQ.out
      simp only [n2] at hq
      have HQ2 := Hid.mk' hq
      clear hq HQ n2 HT hp3 hf3
      go_wp2_with fail
      refine (HX.out).mono ?_
      intro e w4 h4
      cases hx : Z.exprI k R2 m with
      | none =>
        obtain ⟨rfl, h5, h6⟩ := HE3.out.of_no hx h4
        have hq := HQ2.out
        rw [hx] at hq
        have HQ3 := Hid.mk' hq
        have HF := Hid.mk' h5
        have HPF := Hid.mk' h6
        clear hq HQ2 hx h4 h5 h6 HX
        go_wp2
        go_ret
        exact OutI.no HQ3.out HF.out HPF.out
      | some q =>
        obtain ⟨x, R3, m3⟩ := q
        obtain ⟨rfl, cs, h5, h6, h7⟩ := HE3.out.of_out hx h4 ShE.ok (by exact of_decide_eq_true rfl)
        have h8 : PE w w4 p R3 0 m3 g o T cur (.string (S s) :: cs) := by
          have := h5
          rwa [show lput (lput (.string ⟨#[]⟩ :: zE) 0 [.string (S s)]) 1 cs = .string (S s) :: cs from lput_cons (K := zE) (by rw [h6]; rfl)] at this
        have hq := HQ2.out
        rw [hx] at hq
        have HQ3 := Hid.mk' hq
        have HF := Hid.mk' h8
        have hle := HE3.out.2.2.1.2.1
        have HS := Hid.mk' (h7.mono (ok' := fun b => w.heap.size ≤ b ∧ b < w4.heap.size) fun b hb => ⟨Nat.le_trans hle hb.1, hb.2⟩)
        clear hq HQ2 hx h4 h5 h6 h7 h8 HX
        go_wp2
        go_ret
        exact OutI.yes HQ3.out HF.out.2.2.1 HF.out.1 HF.out.2.1 ⟨cs, rfl, HS.out⟩

set_option maxRecDepth 100000 in
set_option maxHeartbeats 1000000 in
theorem key_reads (k B : Nat) (hB : 10 * ((B : Int) + 1) ≤ k + 1) (hB2 : B ≤ 400000) : ReadsI ShKey 156 (Z.keyI k) 0 (zE ++ [.bool false]) B := by
  intro w p R m h hR g o T cur he
  have HP := Hid.mk' (PE.start h he)
  have hgl := he.lt
  have HX := Hid.mk' (exprI_reads k B hB (by omega) h (by omega) (he.sub 0 zE (by decide) rfl))
  simp only [Nat.add_zero] at HX
  have hpl : Hid (Z.keyI k R m = match Z.exprI k R m with
    | none => none
    | some (x, R1, m1) => match Z.tk [100,101,115,99] R1 with
      | none => some ((x, false), R1, m1)
      | some R2 => some ((x, true), R2, m1)) := rfl
  obtain ⟨r, hr⟩ : ∃ r, Z.keyI k R m = r := ⟨_, rfl⟩
  rw [hr] at hpl
  rw [hr]
  have hpw := h.lt
  clear h he hr
  go_enter Tryz.func156, Tryz.ntmps156
  go_wp2_with fail
  refine (HX.out).mono ?_
  intro e w2 h2
  cases hx : Z.exprI k R m with
  | none =>
    obtain ⟨rfl, h5, h6⟩ := HP.out.of_no hx h2
    have hq := hpl.out
    rw [hx] at hq
    have HQ3 := Hid.mk' hq
    have HF := Hid.mk' h5
    have HPF := Hid.mk' h6
    clear hq hpl hx h2 h5 h6 HX
    go_wp2
    go_ret
    exact OutI.no HQ3.out HF.out HPF.out
  | some q =>
    obtain ⟨x, R1, m1⟩ := q
    obtain ⟨rfl, cs, h5, h6, h7⟩ := HP.out.of_out (j := 0) hx h2 ShE.ok (by decide)
    have h8 : PE w w2 p R1 0 m1 g o T cur (cs ++ [.bool false]) := by
      have := h5
      rwa [lput_front (K := zE) (by rw [h6]; rfl)] at this
    have hq := hpl.out
    rw [hx] at hq
    have HQ := Hid.mk' hq
    have HF := Hid.mk' h8
    have HS := Hid.mk' h7
    have HL6 := Hid.mk' h6
    have HT := Hid.mk' (take_any [100,101,115,99] (by decide) (by decide) h8.1)
    clear hq hpl hx h2 h5 h6 h7 h8 HX
    go_wp2_with fail
    refine (HT.out).mono ?_
    rintro e w3 ⟨hf3, ⟨n2, rfl, hp3⟩ | ⟨R2, n2, rfl, hp3⟩⟩
    all_goals
      have HE3 := Hid.mk' (HF.out.other hp3 hf3)
      have HS3 := Hid.mk' (HS.out.fr (lo' := w.heap.size) hf3 (Nat.le_refl _) (by simpa using hpw))
      have hq := HQ.out
      simp only [n2] at hq
      have HQ2 := Hid.mk' hq
      have hg3 := HE3.out.2.1.lt
      have f3 := HE3.out.2.1.fz
      have c3 : w3.cell? ⟨g, o + 7, none⟩ = some (.bool false) := HE3.out.2.1.cell (j := 7) (by rw [List.getElem?_append_right (by rw [HL6.out]; decide), HL6.out]; rfl)
      clear hq HQ n2 HT hp3 hf3 HF HS
      go_wp2
      go_ret
      refine OutI.yes HQ2.out (HE3.out.set 7 _ (by rw [List.length_append, HL6.out]; decide)).2.2.1 (HE3.out.set 7 _ (by rw [List.length_append, HL6.out]; decide)).1 (HE3.out.set 7 _ (by rw [List.length_append, HL6.out]; decide)).2.1 ⟨cs, ?_, ?_⟩
      · rw [List.set_append_right _ _ (by rw [HL6.out]; decide), HL6.out]
        rfl
      · exact HS3.out.fr (Fr.of_set w3 ⟨g, o + 7, none⟩ _) (Nat.le_refl _) (by simpa using hgl)

set_option maxRecDepth 100000 in
set_option maxHeartbeats 1000000 in
theorem row_reads (k B : Nat) (hB : 10 * ((B : Int) + 1) ≤ k + 1) (hB2 : B ≤ 400000) : ReadsI (ShRow ShE 56 7) 71 (Z.rowI k) 0 [.slice none 0 0] B := by
  intro w p R m h hR g o T cur he
  have HP := Hid.mk' (PE.start h he)
  have hgl := he.lt
  have hpw := h.lt
  have HT0 := Hid.mk' (take_any [40] (by decide) (by decide) h)
  have hpl : Hid (Z.rowI k R m = match Z.tk [40] R with
    | none => none
    | some R1 => match Z.list (Z.exprI k) R1 m with
      | none => none
      | some (l, R2, m2) => match Z.tk [41] R2 with
        | none => none
        | some R3 => some (l, R3, m2)) := rfl
  obtain ⟨r, hr⟩ : ∃ r, Z.rowI k R m = r := ⟨_, rfl⟩
  rw [hr] at hpl
  rw [hr]
  have hmf := makef
  clear h he hr
  go_enter Tryz.func71, Tryz.ntmps71
  go_wp2_with fail
  refine (HT0.out).mono ?_
  rintro e w3 ⟨hf3, ⟨n2, rfl, hp3⟩ | ⟨R2, n2, rfl, hp3⟩⟩
  · have HE3 := Hid.mk' (HP.out.other hp3 hf3)
    have hq := hpl.out
    simp only [n2] at hq
    have HQ2 := Hid.mk' hq
    clear hq hpl n2 HT0 hp3 hf3
    go_wp2
    go_ret
    exact OutI.no HQ2.out HE3.out.2.2.1 HE3.out.1.pf
  · have HE3 := Hid.mk' (HP.out.other hp3 hf3)
    have hl2 := Z.tk_le n2
    have HX := Hid.mk' (list_exprs ShE.ok ShE.form callf_expr (exprI_reads k B hB (by omega)) HE3.out.1 (by omega) (by omega) (exprI_lt k) HE3.out.2.1)
    have hq := hpl.out
    simp only [n2] at hq
    have HQ2 := Hid.mk' hq
    clear hq hpl n2 HT0 hp3 hf3
    go_wp2_with fail
    refine (HX.out).mono ?_
    intro e w4 h4
    cases hx : Z.list (Z.exprI k) R2 m with
    | none =>
      obtain ⟨rfl, h5, h6⟩ := HE3.out.of_no hx h4
      have hq := HQ2.out
      rw [hx] at hq
      have HQ3 := Hid.mk' hq
      have HF := Hid.mk' h5
      have HPF := Hid.mk' h6
      clear hq HQ2 hx h4 h5 h6 HX
      go_wp2
      go_ret
      exact OutI.no HQ3.out HF.out HPF.out
    | some q =>
      obtain ⟨x, R3, m3⟩ := q
      obtain ⟨rfl, cs, h8, h7⟩ := HE3.out.of_whole hx h4
      have hq := HQ2.out
      rw [hx] at hq
      have HQ3 := Hid.mk' hq
      have HF := Hid.mk' h8
      have hle := HE3.out.2.2.1.2.1
      have HS := Hid.mk' ((ShRow.ok ShE.ok 56).on (w' := w4) (ok' := fun b => w.heap.size ≤ b ∧ b < w4.heap.size) (fun b hb => ⟨⟨Nat.le_trans hle hb.1, hb.2⟩, rfl⟩) x cs h7)
      have HT := Hid.mk' (take_any [41] (by decide) (by decide) h8.1)
      clear hq HQ2 hx h4 h7 h8 HX
      go_wp2_with fail
      refine (HT.out).mono ?_
      rintro e w5 ⟨hf5, ⟨n5, rfl, hp5⟩ | ⟨R5, n5, rfl, hp5⟩⟩
      all_goals
        have HE5 := Hid.mk' (HF.out.other hp5 hf5)
        have hw5 := hf5.2.1
        have HS5 := Hid.mk' ((ShRow.ok ShE.ok 56).on (w' := w5) (ok' := fun b => w.heap.size ≤ b ∧ b < w5.heap.size) (fun b hb => ⟨⟨hb.1, by omega⟩, hf5.2.2 b hb.2 (by simp; omega)⟩) x cs HS.out)
        have hq := HQ3.out
        simp only [n5] at hq
        have HQ5 := Hid.mk' hq
        clear hq HQ3 n5 HT hp5 hf5 HF HS
        go_wp2
        go_ret
      · exact OutI.no HQ5.out HE5.out.2.2.1 HE5.out.1.pf
      · exact OutI.yes HQ5.out HE5.out.2.2.1 HE5.out.1 HE5.out.2.1 HS5.out

def Z.colT (R : List L.Tok) : Int × List L.Tok := match Z.tk [105,110,116,101,103,101,114] R with
  | some R1 => (2, R1)
  | none => match Z.tk [116,101,120,116] R with
    | some R1 => (3, R1)
    | none => match Z.tk [98,108,111,98] R with
      | some R1 => (4, R1)
      | none => match Z.tk [97,110,121] R with
        | some R1 => (1, R1)
        | none => (1, R)
abbrev Z.Co := Z.W × Int × Bool
def Z.colI (R : List L.Tok) (m : Int) : Z.Rs Z.Co := match Z.name R with
  | none => none
  | some (s, R1) => match Z.tk [110,111,116,32,110,117,108,108] (Z.colT R1).2 with
    | none => some ((s, (Z.colT R1).1, false), (Z.colT R1).2, m)
    | some R2 => some ((s, (Z.colT R1).1, true), R2, m)
def Z.boxI (R : List L.Tok) (m : Int) : Z.Rs Z.Co := match Z.name R with
  | none => none
  | some (s, R1) => some ((s, 2, true), R1, m)
theorem Z.colT_le (R : List L.Tok) : (Z.colT R).2.length ≤ R.length := by
  unfold Z.colT
  split
  · next h => exact Z.tk_le h
  split
  · next h => exact Z.tk_le h
  split
  · next h => exact Z.tk_le h
  split
  · next h => exact Z.tk_le h
  · exact Nat.le_refl _
theorem colI_lt (R : List L.Tok) (m : Int) (x : Z.Co) (R1 : List L.Tok) (m1 : Int) (h : Z.colI R m = some (x, R1, m1)) : R1.length < R.length := by
  unfold Z.colI at h
  split at h
  · cases h
  next s R2 h2 =>
  have := Z.name_lt h2
  have := Z.colT_le R2
  split at h
  · cases h; omega
  next R3 h3 =>
  cases h
  have := Z.tk_le h3
  omega
theorem boxI_lt (R : List L.Tok) (m : Int) (x : Z.Co) (R1 : List L.Tok) (m1 : Int) (h : Z.boxI R m = some (x, R1, m1)) : R1.length < R.length := by
  unfold Z.boxI at h
  split at h
  · cases h
  next s R2 h2 => cases h; exact Z.name_lt h2

def ShCol : Shows Z.Co := fun _ _ q cs => cs = [.string (S q.1), .int .i64 q.2.1, .bool q.2.2]
theorem ShCol.ok : ShOk ShCol 3 where
  on := fun _ _ _ h => h
  len := by rintro w ok x cs rfl; rfl
  one := by
    rintro w ok x cs rfl u hu
    simp at hu
    rcases hu with rfl | rfl | rfl <;> rfl

def CtOut (w : World) (p : Nat) (R : List L.Tok) (d m : Int) (e : Ending) (w' : World) : Prop := Fr [p] w w' ∧ e = .returned (.int .i64 (Z.colT R).1) ∧ PS w' p (Z.colT R).2 d m

set_option maxRecDepth 100000 in
set_option maxHeartbeats 1000000 in
theorem coltype_any {w : World} {p : Nat} {R : List L.Tok} {d m : Int} (h : PS w p R d m) : Calls Tryz.prog 195 #[.pointer (some ⟨p, 0, none⟩)] w (CtOut w p R d m) := by
  have HT1 := Hid.mk' (take_any [105,110,116,101,103,101,114] (by decide) (by decide) h)
  have hpl : Hid (Z.colT R = match Z.tk [105,110,116,101,103,101,114] R with
    | some R1 => (2, R1)
    | none => match Z.tk [116,101,120,116] R with
      | some R1 => (3, R1)
      | none => match Z.tk [98,108,111,98] R with
        | some R1 => (4, R1)
        | none => match Z.tk [97,110,121] R with
          | some R1 => (1, R1)
          | none => (1, R)) := rfl
  obtain ⟨r, hr⟩ : ∃ r, Z.colT R = r := ⟨_, rfl⟩
  rw [hr] at hpl
  have HO : Hid (∀ e w', Fr [p] w w' → e = .returned (.int .i64 r.1) → PS w' p r.2 d m → CtOut w p R d m e w') := fun e w' a b c => ⟨a, by rw [hr]; exact b, by rw [hr]; exact c⟩
  clear h hr
  go_enter Tryz.func195, Tryz.ntmps195
  go_wp2_with fail
  refine (HT1.out).mono ?_
  rintro e w1 ⟨hf1, ⟨n1, rfl, hp1⟩ | ⟨R1, n1, rfl, hp1⟩⟩
  rotate_left
  · have hq := hpl.out
    rw [n1] at hq
    have HQ := Hid.mk' hq
    have HF := Hid.mk' hf1
    have HP := Hid.mk' hp1
    clear hq hpl n1 HT1 hf1 hp1
    go_wp2
    go_ret
    exact HO.out _ _ HF.out (by rw [HQ.out]; rfl) (by rw [HQ.out]; exact HP.out)
  · have hq := hpl.out
    rw [n1] at hq
    have HQ := Hid.mk' hq
    have HF1 := Hid.mk' hf1
    have HT2 := Hid.mk' (take_any [116,101,120,116] (by decide) (by decide) hp1)
    clear hq hpl n1 HT1 hf1 hp1
    go_wp2_with fail
    refine (HT2.out).mono ?_
    rintro e w2 ⟨hf1, ⟨n1, rfl, hp1⟩ | ⟨R1, n1, rfl, hp1⟩⟩
    rotate_left
    · have hq := HQ.out
      rw [n1] at hq
      have HQ2 := Hid.mk' hq
      have HF := Hid.mk' (HF1.out.trans hf1 (by simp))
      have HP := Hid.mk' hp1
      clear hq HQ n1 HT2 hf1 hp1
      go_wp2
      go_ret
      exact HO.out _ _ HF.out (by rw [HQ2.out]; rfl) (by rw [HQ2.out]; exact HP.out)
    · have hq := HQ.out
      rw [n1] at hq
      have HQ2 := Hid.mk' hq
      have HF2 := Hid.mk' (HF1.out.trans hf1 (by simp))
      have HT3 := Hid.mk' (take_any [98,108,111,98] (by decide) (by decide) hp1)
      clear hq HQ n1 HT2 hf1 hp1
      go_wp2_with fail
      refine (HT3.out).mono ?_
      rintro e w3 ⟨hf1, ⟨n1, rfl, hp1⟩ | ⟨R1, n1, rfl, hp1⟩⟩
      rotate_left
      · have hq := HQ2.out
        rw [n1] at hq
        have HQ3 := Hid.mk' hq
        have HF := Hid.mk' (HF2.out.trans hf1 (by simp))
        have HP := Hid.mk' hp1
        clear hq HQ2 n1 HT3 hf1 hp1
        go_wp2
        go_ret
        exact HO.out _ _ HF.out (by rw [HQ3.out]; rfl) (by rw [HQ3.out]; exact HP.out)
      · have hq := HQ2.out
        rw [n1] at hq
        have HQ3 := Hid.mk' hq
        have HF3 := Hid.mk' (HF2.out.trans hf1 (by simp))
        have HT4 := Hid.mk' (take_any [97,110,121] (by decide) (by decide) hp1)
        clear hq HQ2 n1 HT3 hf1 hp1
        go_wp2_with fail
        refine (HT4.out).mono ?_
        rintro e w4 ⟨hf1, ⟨n1, rfl, hp1⟩ | ⟨R1, n1, rfl, hp1⟩⟩
        all_goals
          have hq := HQ3.out
          rw [n1] at hq
          have HQ4 := Hid.mk' hq
          have HF := Hid.mk' (HF3.out.trans hf1 (by simp))
          have HP := Hid.mk' hp1
          clear hq HQ3 n1 HT4 hf1 hp1
          go_wp2
          go_ret
          exact HO.out _ _ HF.out (by rw [HQ4.out]; rfl) (by rw [HQ4.out]; exact HP.out)

set_option maxRecDepth 100000 in
set_option maxHeartbeats 1000000 in
theorem column_reads (B : Nat) : ReadsI ShCol 150 Z.colI 0 [.string ⟨#[]⟩, .int .i64 0, .bool false] B := by
  intro w p R m h hR g o T cur he
  have HP := Hid.mk' (PE.start h he)
  have hgl := he.lt
  have HN := Hid.mk' (name_any h (he.sub 0 [.string ⟨#[]⟩] (by decide) rfl))
  simp only [Nat.add_zero] at HN
  have hpl : Hid (Z.colI R m = match Z.name R with
    | none => none
    | some (s, R1) => match Z.tk [110,111,116,32,110,117,108,108] (Z.colT R1).2 with
      | none => some ((s, (Z.colT R1).1, false), (Z.colT R1).2, m)
      | some R2 => some ((s, (Z.colT R1).1, true), R2, m)) := rfl
  obtain ⟨r, hr⟩ : ∃ r, Z.colI R m = r := ⟨_, rfl⟩
  rw [hr] at hpl
  rw [hr]
  clear h he hr
  go_enter Tryz.func150, Tryz.ntmps150
  go_wp2_with fail
  refine (HN.out).mono ?_
  rintro e w2 (⟨n1, rfl, rfl⟩ | ⟨s, R1, n1, rfl, hp2, he2, hf2⟩)
  · have hq := hpl.out
    rw [n1] at hq
    have HQ := Hid.mk' hq
    clear hq hpl n1 HN
    go_wp2
    go_ret
    exact OutI.no HQ.out HP.out.2.2.1 HP.out.1.pf
  · have HE2 : Hid (PE w w2 p R1 0 m g o T cur [.string (S s), .int .i64 0, .bool false]) := HP.out.part (j := 0) (M := [.string (S s)]) (by exact of_decide_eq_true rfl) hp2 he2 hf2
    have HT := Hid.mk' (coltype_any hp2)
    have hq := hpl.out
    rw [n1] at hq
    have HQ := Hid.mk' hq
    clear hq hpl n1 HN hp2 he2 hf2
    go_wp2_with fail
    refine (HT.out).mono ?_
    rintro e w3 ⟨hf3, rfl, hp3⟩
    have HE3 := Hid.mk' (HE2.out.other hp3 hf3)
    have hg3 := HE3.out.2.1.lt
    have f3 := HE3.out.2.1.fz
    have c1 := HE3.out.2.1.cell (j := 1) rfl
    have HE4 := Hid.mk' (HE3.out.set 1 (.int .i64 (Z.colT R1).1))
    have HT2 := Hid.mk' (take_any [110,111,116,32,110,117,108,108] (by decide) (by decide) HE4.out.1)
    obtain ⟨q, hq⟩ : ∃ q, Z.colT R1 = q := ⟨_, rfl⟩
    obtain ⟨q1, q2⟩ := q
    rw [hq] at HQ HE4 HT2 ⊢
    have HQ1 := Hid.mk' HQ.out
    clear hp3 hf3 HT HQ hq
    simp only at HE4 HT2 HQ1 ⊢
    go_wp2_with fail
    refine (HT2.out).mono ?_
    rintro e w5 ⟨hf5, ⟨n2, rfl, hp5⟩ | ⟨R2, n2, rfl, hp5⟩⟩
    all_goals
      have HE5 := Hid.mk' (HE4.out.other hp5 hf5)
      have hg5 := HE5.out.2.1.lt
      have f5 := HE5.out.2.1.fz
      have c5 := HE5.out.2.1.cell (j := 2) rfl
      have hq := HQ1.out
      simp only [n2] at hq
      have HQ2 := Hid.mk' hq
      clear hq HQ1 n2 HT2 hp5 hf5
      go_wp2
      go_ret
      exact OutI.yes HQ2.out (HE5.out.set 2 _).2.2.1 (HE5.out.set 2 _).1 (HE5.out.set 2 _).2.1 rfl

set_option maxRecDepth 100000 in
set_option maxHeartbeats 1000000 in
theorem box_reads (B : Nat) : ReadsI ShCol 151 Z.boxI 0 [.string ⟨#[]⟩, .int .i64 0, .bool false] B := by
  intro w p R m h hR g o T cur he
  have HP := Hid.mk' (((PE.start h he).set 1 (.int .i64 2)).set 2 (.bool true))
  have hgl := he.lt
  have f1 := he.fz
  have c1 := he.cell (j := 1) rfl
  have c2 := he.cell (j := 2) rfl
  have HN := Hid.mk' (name_any HP.out.1 (HP.out.2.1.sub 0 [.string ⟨#[]⟩] (by exact of_decide_eq_true rfl) rfl))
  simp only [Nat.add_zero] at HN
  have hpl : Hid (Z.boxI R m = match Z.name R with
    | none => none
    | some (s, R1) => some ((s, 2, true), R1, m)) := rfl
  obtain ⟨r, hr⟩ : ∃ r, Z.boxI R m = r := ⟨_, rfl⟩
  rw [hr] at hpl
  rw [hr]
  clear h he hr
  go_enter Tryz.func151, Tryz.ntmps151
  go_wp2_with fail
  refine (HN.out).mono ?_
  rintro e w2 (⟨n1, rfl, rfl⟩ | ⟨s, R1, n1, rfl, hp2, he2, hf2⟩)
  · have hq := hpl.out
    rw [n1] at hq
    have HQ := Hid.mk' hq
    clear hq hpl n1 HN
    go_wp2
    go_ret
    exact OutI.no HQ.out HP.out.2.2.1 HP.out.1.pf
  · have HE2 : Hid (PE w w2 p R1 0 m g o T cur [.string (S s), .int .i64 2, .bool true]) := HP.out.part (j := 0) (M := [.string (S s)]) (by exact of_decide_eq_true rfl) hp2 he2 hf2
    have hq := hpl.out
    rw [n1] at hq
    have HQ := Hid.mk' hq
    clear hq hpl n1 HN hp2 he2 hf2
    go_wp2
    go_ret
    exact OutI.yes HQ.out HE2.out.2.2.1 HE2.out.1 HE2.out.2.1 rfl
end Go.Proofs.YtmepkmhfjgocgaaGreatDoor
