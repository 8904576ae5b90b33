/-
  The parser's list of expressions.
-/
import Derived.Test.YtmepkmhfjgocgaaGreatDoorZq
namespace Go.Proofs.YtmepkmhfjgocgaaGreatDoor
open Go.ChangeShapes Go.WideShapes Go.ChangeAt Go.RowKit Go.Deep

theorem form7 {cs : List Value} (h : cs.length = 7) : ∃ b0 b1 b2 b3 b4 b5 b6, cs = [b0, b1, b2, b3, b4, b5, b6] := match cs, h with | [_, _, _, _, _, _, _], _ => ⟨_, _, _, _, _, _, _, rfl⟩
theorem PE.over {w0 w w' : World} {p : Nat} {R : List L.Tok} {d m : Int} {g o : Nat} {T : TypeId} {cur K : List Value} (h : PE w0 w p R d m g o T cur K) {gb : Nat} {cu : Array Value} {Tb : TypeId} (hh : w.heap[gb]? = some (.cells cu Tb (0, 0))) (h1 : Tb ≠ 126) (h2 : Tb ≠ 62) (h3 : w0.heap.size ≤ gb) (h7 : 9 ≤ gb) (hg : gb ≠ g) (hf : Fr [gb] w w') : PE w0 w' p R d m g o T cur K := by
  obtain ⟨a1, a2, a3, a4⟩ := h
  have hn : ∀ k ∈ [gb], ∃ cur t z, w.heap[k]? = some (.cells cur t z) ∧ t ≠ 126 ∧ t ≠ 62 := by
    intro k hk
    obtain rfl : k = gb := by simpa using hk
    exact ⟨_, _, _, hh, h1, h2⟩
  refine ⟨a1.fr hf (by simpa using h7) hn, a2.fr hf (by simpa using hg.symm), a3.trans hf (by simp; omega), fun v X hv => (a4 v X hv).fr hf fun k hk cur' hc => ?_⟩
  obtain rfl : k = gb := by simpa using hk
  rw [hh] at hc
  simp at hc
  exact h1 hc.2

/-- The item's room is put to the row first, the item is laid there behind it. -/
theorem Lst.room {α : Type} {Sh : Shows α} (hS : ShOk Sh 7)
    {w0 w wa w2 : World} {p : Nat} {R R1 : List L.Tok} {d m m1 : Int} {g o : Nat} {T0 : TypeId} {cur : List Value} {l : List α} {v : Value} (h : Lst Sh 56 7 w0 w p R d m g o T0 cur l v) (hg0 : g < w0.heap.size) (hp0 : p < w0.heap.size)
    {gx : Nat} {b0 b1 b2 b3 b4 b5 b6 : Value} {x : α} (hwa : Fr [] w wa) (hgx : w.heap.size ≤ gx) (hgx2 : gx < wa.heap.size) (hf : Fr [p, gx] wa w2) (hp2 : PS w2 p R1 d m1) (he2 : EL w2 gx 0 56 zE [b0, b1, b2, b3, b4, b5, b6]) (hs2 : Sh w2 (fun b => wa.heap.size ≤ b ∧ b < w2.heap.size) x [b0, b1, b2, b3, b4, b5, b6]) (hgxa : EL wa gx 0 56 zE zE) (hR : R1.length < R.length) :
    ∃ v5 w5, (Builtin.append_ #[26, 26] 26 #[v, .slice (some ⟨w2.heap.size, 0, none⟩) 1 1]).run Tryz.prog (w2.alloc (.cells zE.toArray 56)) = .ok v5 w5 ∧
      ∃ gb cap, v5 = .slice (some ⟨gb, 0, none⟩) (l.length + 1) cap ∧ w5.cell? ⟨g, o, none⟩ = some v ∧ (∀ j, w5.frozen? ⟨g, j, none⟩ = false) ∧ g < w5.heap.size ∧ gb < w5.heap.size ∧ gb ≠ g ∧ gx ≠ g ∧ (∀ j, w5.frozen? ⟨gb, j, none⟩ = false) ∧
        Hid (EL w5 gx 0 56 zE [b0, b1, b2, b3, b4, b5, b6]) ∧ Hid (∃ cb, EL w5 gb (l.length * 7) 56 cb zE) ∧
        Hid (Lst Sh 56 7 w0 ((((((((w5.setCell ⟨g, o, none⟩ v5).setCell ⟨gb, l.length * 7, none⟩ b0).setCell ⟨gb, l.length * 7 + 1, none⟩ b1).setCell ⟨gb, l.length * 7 + 2, none⟩ b2).setCell ⟨gb, l.length * 7 + 3, none⟩ b3).setCell ⟨gb, l.length * 7 + 4, none⟩ b4).setCell ⟨gb, l.length * 7 + 5, none⟩ b5).setCell ⟨gb, l.length * 7 + 6, none⟩ b6) p R1 d m1 g o T0 cur (l ++ [x]) v5) := by
  obtain ⟨row, hP, ho, hl, hA⟩ := h
  have Pa := hP.keep hwa
  have hw := hP.2.2.1.2.1
  have hwas := hwa.2.1
  have hne := Pa.2.1.ne Pa.1
  have hglt := hP.2.1.lt
  have E2 : EL w2 g o T0 cur [v] := Pa.2.1.fr hf (by simp; exact ⟨hne, by omega⟩)
  have P2 : PE w0 w2 p R1 d m1 g o T0 cur [v] := by
    refine ⟨hp2, E2, Pa.2.2.1.trans hf (by simp; omega), fun u X hu => ?_⟩
    obtain ⟨_, _, v2, hb, _⟩ := Pa.1
    exact (Pa.2.2.2 u X hu).two hb hgxa hf
  obtain ⟨i0, hi1, hz0, hz1, hz2⟩ := info_parts info_expr
  have hap : ∀ b, v.ownBlock = some b → b ≠ p ∧ b ≠ g ∧ b < w.heap.size ∧ w0.heap.size ≤ b := by
    intro b hb
    rcases ho.2 with ⟨rfl, _⟩ | ⟨gb, cap, cu, rfl, hgb, hh, _⟩
    · simp [Value.ownBlock] at hb
    · obtain rfl : gb = b := by simpa [Value.ownBlock] using hb
      exact ⟨by omega, by omega, (Array.getElem?_eq_some_iff.1 hh).1, hgb⟩
  have ho2 : w2.ownsRow w0.heap.size 56 7 v l.length row := by
    refine owns_at ho fun b hb => ?_
    obtain ⟨h1, h2, h3, _⟩ := hap b hb
    rw [hf.2.2 b (by omega) (by simp; exact ⟨h1, by omega⟩), hwa.2.2 b h3 (by simp)]
  have ho3 : (w2.alloc (.cells zE.toArray 56)).ownsRow w0.heap.size 56 7 v l.length row := owns_keep (w := w2) ho2 ((Below.refl _ w2).alloc (Nat.le_refl _) _)
  have hsrc := src_row (size := 7) Tryz.underlying26 56 w2 zE rfl (by intro u hu; simp [zE] at hu; rcases hu with rfl | rfl | rfl <;> rfl)
  have hw2 := hf.2.1
  have hsz2 : (w2.alloc (.cells zE.toArray 56)).heap.size = w2.heap.size + 1 := by simp
  obtain ⟨v5, w5, hr, h5, hg5, hl5⟩ := run_append_src (w2.alloc (.cells zE.toArray 56)) w0.heap.size 26 26 26 56 i0 _ 7 96 Tryz.underlying26 hi1 hz0 hz1 hz2 rfl v l.length row ho3 _ 1 zE hsrc (by unfold maxLen; omega) (by omega) (by omega)
  rw [hsz2] at hl5
  have hf5a : Fr [] w2 (w2.alloc (.cells zE.toArray 56)) := Fr.of_alloc (fs := []) w2 _
  have hf5 : Fr v.ownBlock.toList w2 w5 := (hf5a.mono (gs := v.ownBlock.toList) (by simp)).trans (Fr.of_grown hg5) (fun k hk => .inl hk)
  have hin : ∀ k ∈ v.ownBlock.toList, v.ownBlock = some k := fun k hk => by simpa using hk
  have hty : ∀ k ∈ v.ownBlock.toList, ∃ cu, w2.heap[k]? = some (.cells cu 56 (0, 0)) := by
    intro k hk
    rcases ho2.2 with ⟨rfl, _⟩ | ⟨gb, cap, cu, rfl, hgb, hh, _⟩
    · simp [Value.ownBlock] at hk
    · obtain rfl : gb = k := by simpa [Value.ownBlock] using hin k hk
      exact ⟨cu, hh⟩
  have h7 : 9 ≤ w0.heap.size := by have := P2.2.1.2.2.2.2; omega
  have E5 : EL w5 g o T0 cur [v] := E2.fr hf5 (fun hk => (hap g (hin g hk)).2.1 rfl)
  have P5 : PE w0 w5 p R1 d m1 g o T0 cur [v] := by
    refine ⟨P2.1.fr hf5 (fun k hk => by have := hap k (hin k hk); omega) (fun k hk => ?_), E5, ?_, fun u X hu => (P2.2.2.2 u X hu).fr hf5 fun k hk cur' hc => ?_⟩
    · obtain ⟨cu, hh⟩ := hty k hk
      exact ⟨cu, _, _, hh, by decide, by decide⟩
    · exact P2.2.2.1.trans hf5 (fun k hk => .inr (hap k (hin k hk)).2.2.2)
    · obtain ⟨cu, hh⟩ := hty k hk
      rw [hh] at hc
      simp at hc
  have P6 := P5.set 0 v5
  simp only [Nat.add_zero] at P6
  have hw5 := hf5.2.1
  rcases h5.2 with ⟨_, h0⟩ | ⟨gb, cap, cu, rfl, hgb, hh, hn, hcm, hcs, htake⟩
  · omega
  have hgbl := (Array.getElem?_eq_some_iff.1 hh).1
  have hown5 : v.ownBlock = some gb ∨ gb = w2.heap.size + 1 := by
    rcases hl5 with e | e
    · exact .inl (by rw [← e]; rfl)
    · exact .inr (by simpa [Value.ownBlock] using e)
  have hgbg : gb ≠ g := by rcases hown5 with e | e; exact (hap gb e).2.1; omega
  have hEb : EL w5 gb (l.length * 7) 56 cu.toList zE := by
    refine ⟨?_, by simp [zE]; omega, by decide, by decide, by omega⟩
    rw [lput_self (by simp [zE]; omega) fun j x hj => ?_]
    · simpa using hh
    · have hj7 : j < 7 := (List.getElem?_eq_some_iff.1 hj).1
      have hrl : row.length = l.length * 7 := ho.1
      have h1 : (cu.toList.take ((l.length + 1) * 7))[l.length * 7 + j]? = some x := by
        rw [htake, List.getElem?_append_right (by omega), hrl, show l.length * 7 + j - l.length * 7 = j by omega]
        exact hj
      rwa [List.getElem?_take_of_lt (by omega)] at h1
  have hset : ∀ b, b ≠ g → (w5.setCell ⟨g, o, none⟩ (.slice (some ⟨gb, 0, none⟩) (l.length + 1) cap)).heap[b]? = w5.heap[b]? := fun b hb => Below.heap_setCell w5 ⟨g, o, none⟩ _ b hb
  have hEb6 : EL (w5.setCell ⟨g, o, none⟩ (.slice (some ⟨gb, 0, none⟩) (l.length + 1) cap)) gb (l.length * 7) 56 cu.toList zE := ⟨(hset gb hgbg).trans hEb.1, hEb.2⟩
  have hE7 := ((((((hEb6.set (j := 0) (by decide) b0).set (j := 1) (by exact of_decide_eq_true rfl) b1).set (j := 2) (by exact of_decide_eq_true rfl) b2).set (j := 3) (by exact of_decide_eq_true rfl) b3).set (j := 4) (by exact of_decide_eq_true rfl) b4).set (j := 5) (by exact of_decide_eq_true rfl) b5).set (j := 6) (by exact of_decide_eq_true rfl) b6
  have hF7 := Fr.set7 (w5.setCell ⟨g, o, none⟩ (.slice (some ⟨gb, 0, none⟩) (l.length + 1) cap)) gb (l.length * 7) b0 b1 b2 b3 b4 b5 b6
  have hgx5 : EL w5 gx 0 56 zE [b0, b1, b2, b3, b4, b5, b6] := he2.fr hf5 (fun hk => by have := hap gx (hin gx hk); omega)
  have hsz6 : (w5.setCell ⟨g, o, none⟩ (.slice (some ⟨gb, 0, none⟩) (l.length + 1) cap)).heap.size = w5.heap.size := by simp
  refine ⟨_, w5, hr, gb, cap, rfl, E5.cell (j := 0) rfl, E5.fz, E5.lt, hgbl, hgbg, by omega, hEb.fz, Hid.mk' hgx5, Hid.mk' ⟨_, hEb⟩, Hid.mk' ⟨row ++ [b0, b1, b2, b3, b4, b5, b6], P6.over hEb6.1 (by decide) (by decide) hgb (by omega) hgbg hF7, ?_, ?_, ?_⟩⟩
  · rw [List.length_append]
    refine ⟨by simp [ho.1]; omega, .inr ⟨gb, cap, _, rfl, hgb, hE7.1, hn, hcm, ?_, ?_⟩⟩
    · have hl7 := lput_len hE7.2.1
      simp only [List.size_toArray]
      simp only [Array.length_toList] at hl7
      exact hl7.trans hcs
    · have hrl : row.length = l.length * 7 := ho.1
      have ht : cu.toList.take (l.length * 7) = row := by
        have h1 := congrArg (List.take (l.length * 7)) htake
        rw [List.take_take, Nat.min_eq_left (by omega)] at h1
        rw [h1, List.take_append_of_le_length (by omega), List.take_of_length_le (by omega)]
      show (lput cu.toList (l.length * 7) [b0, b1, b2, b3, b4, b5, b6]).take ((l.length + 1) * 7) = _
      unfold lput
      rw [ht, List.take_append_of_le_length (by simp [hrl]; omega), List.take_of_length_le (by simp [hrl]; omega)]
  · simp only [List.length_append, List.length_singleton]
    omega
  · have hz7 := hF7.2.1
    refine ShAll.snoc (hS.on (fun b hb => ?_) x _ hs2) l row (ShAll.on hS (fun b hb => ?_) l row hA)
    · have hnv : v.ownBlock ≠ some b := fun e => by have := hap b e; omega
      have hbg : b ≠ gb := by
        rintro rfl
        rcases hown5 with e | e
        · exact hnv e
        · omega
      refine ⟨⟨by omega, by omega, fun e => hbg (by simpa [Value.ownBlock] using e.symm)⟩, ?_⟩
      rw [hF7.2.2 b (by omega) (by simpa using hbg), hset b (by omega), hf5.2.2 b hb.2 (fun hk => hnv (hin b hk))]
    · obtain ⟨c1, c2, c3⟩ := hb
      have hbg : b ≠ gb := by
        rintro rfl
        rcases hown5 with e | e
        · exact c3 e
        · omega
      refine ⟨⟨c1, by omega, fun e => hbg (by simpa [Value.ownBlock] using e.symm)⟩, ?_⟩
      rw [hF7.2.2 b (by omega) (by simpa using hbg), hset b (by omega), hf5.2.2 b (by omega) (fun hk => c3 (hin b hk)), hf.2.2 b (by omega) (by simp; omega), hwa.2.2 b c2 (by simp)]

theorem info_ex7 : (Tryz.prog.info? 56).map (fun i => (i.zero, i.size, i.bytes)) = some (some (.agg #[.int .i64 0, .int .i64 0, .int .i64 0, .string ⟨#[]⟩, .string ⟨#[]⟩, .string ⟨#[]⟩, .slice none 0 0]), 7, 96) := by kernel_rfl
set_option maxRecDepth 100000 in
set_option maxHeartbeats 2000000 in
theorem list_exprs {α : Type} {Sh : Shows α} (hSh : ShOk Sh 7) (hform : ∀ {w : World} {ok : Nat → Prop} {x : α} {cs : List Value}, Sh w ok x cs → ∃ i0 i1 i2 s3 s4 s5 a n c, cs = [.int .i64 i0, .int .i64 i1, .int .i64 i2, .string s3, .string s4, .string s5, .slice a n c]) {F : Nat} (hcf : ∀ (args : Array Value) (w : World), (callFunc F args).run Tryz.prog w = .ok (.enter F args) w) {f : List L.Tok → Int → Z.Rs α} {d : Int} {B : Nat} (HF : ReadsI Sh F f d [.int .i64 0, .int .i64 0, .int .i64 0, .string ⟨#[]⟩, .string ⟨#[]⟩, .string ⟨#[]⟩, .slice none 0 0] B)
    {w : World} {p : Nat} {R : List L.Tok} {m : Int} (h : PS w p R d m) (hB : R.length ≤ B) (hR : R.length ≤ 500000) (hle : ∀ R m x R1 m1, f R m = some (x, R1, m1) → R1.length < R.length) {g o : Nat} {T0 : TypeId} {cur : List Value} (he : EL w g o T0 cur [.slice none 0 0]) :
    Calls Tryz.prog 153 #[.pointer (some ⟨p, 0, none⟩), .pointer (some ⟨g, o, none⟩), .func (.func F) #[.pointer (some ⟨p, 0, none⟩)] #[]] w (OutI (ShRow Sh 56 7) w p g o T0 cur d (Z.list f R m)) := by
  have HL := Hid.mk' (Lst.start (Sh := Sh) (T := 56) (sz := 7) h he (by omega))
  obtain ⟨r, hr⟩ : ∃ r, Z.list f R m = r := ⟨_, rfl⟩
  have HR0 : Hid (r = Z.listF f (R.length + 1) R m []) := hr.symm
  rw [hr]
  have hgw := he.lt
  have hpw := h.lt
  have hne := he.ne h
  clear h he hr
  go_enter Tryz.func153, Tryz.ntmps153
  go_wp2
  go_loopg [7] (R.length + 1) (fun c' _ wr => ∃ (R' : List L.Tok) (m' : Int) (l : List α) (v : Value), Hid (Lst Sh 56 7 w wr p R' d m' g o T0 cur l v) ∧ Hid (r = Z.listF f c' R' m' l) ∧ R'.length < c' ∧ R'.length ≤ R.length)
  case atStart => exact ⟨R, m, [], _, HL, HR0, by omega, Nat.le_refl _⟩
  case round =>
    clear HL HR0
    obtain ⟨R', m', l, v, HL, HR0, hc, hRR⟩ := hrel
    obtain ⟨c2, rfl⟩ : ∃ c2, gk = c2 + 1 := ⟨gk - 1, by omega⟩
    have h7 := HL.out.seven
    have hEx := Hid.mk' (EL.fresh wr 56 [.int .i64 0, .int .i64 0, .int .i64 0, .string ⟨#[]⟩, .string ⟨#[]⟩, .string ⟨#[]⟩, .slice none 0 0] h7 (by decide) (by decide))
    have HI := Hid.mk' (HF ((HL.out.choose_spec.1.keep (Fr.of_alloc wr (.cells [.int .i64 0, .int .i64 0, .int .i64 0, .string ⟨#[]⟩, .string ⟨#[]⟩, .string ⟨#[]⟩, .slice none 0 0].toArray 56))).1) (by omega) hEx.out)
    go_wp2_with fail
    refine (HI.out).mono ?_
    intro e w2 h2
    have hQ := Z.listF_step f c2 R' m' l
    obtain ⟨hf2, h2⟩ := h2
    cases hfr : f R' m' with
    | none =>
      rw [hfr] at h2 hQ
      obtain ⟨rfl, hpf⟩ := h2
      have HR := Hid.mk' (HR0.out.trans hQ)
      have HF2 := Hid.mk' (HL.out.frame hf2)
      have HPF := Hid.mk' hpf
      clear hf2 hpf hQ hfr HI
      go_wp2
      go_ret
      rw [HR.out]
      exact ⟨HF2.out, rfl, HPF.out⟩
    | some q =>
      obtain ⟨x, R1, m1⟩ := q
      have hlt1 := hle _ _ _ _ _ hfr
      rw [hfr] at h2 hQ
      obtain ⟨rfl, hp2, cs, he2, hs2⟩ := h2
      have HQ := Hid.mk' hQ
      obtain ⟨i0, i1, i2, s3, s4, s5, a6, n6, c6, rfl⟩ := hform hs2
      have HF2 := Hid.mk' hf2
      have HP2 := Hid.mk' hp2
      have HE2 := Hid.mk' he2
      have HS2 := Hid.mk' hs2
      have zx := he2.lt
      clear hf2 hp2 he2 hs2 hQ hfr HI
      go_wp2
      go_region
      · have hZ : Fr [] w2 (w2.alloc (.cells #[.bool false] 4)).drew := Fr.of_alloc (fs := []) w2 _
        generalize (w2.alloc (.cells #[.bool false] 4)).drew = w9 at hZ ⊢
        have hf9 := HF2.out.trans hZ (by simp)
        have hp9 := HP2.out.keep hZ
        have he9 := HE2.out.fr hZ (by simp)
        have hs9 := hSh.on (w' := w9) (ok' := fun b => (wr.alloc (.cells zE.toArray 56)).heap.size ≤ b ∧ b < w9.heap.size) (fun b hb => ⟨⟨hb.1, Nat.lt_of_lt_of_le hb.2 hZ.2.1⟩, hZ.2.2 b hb.2 (by simp)⟩) x _ HS2.out
        have zz := hZ.2.1
        clear hZ
        obtain ⟨E2, hput⟩ := Lst.put hSh Tryz.underlying26 info_ex7 rfl (by decide) HL.out hgw hpw (Fr.of_alloc wr (.cells zE.toArray 56)) (Nat.le_refl _) hf9 hp9 hs9 hEx.out hlt1
        have HA := Hid.mk' hput
        have z1 : w9.cell? ⟨g, o, none⟩ = some v := E2.cell (j := 0) rfl
        have zg := E2.lt
        have zf := E2.fz
        have zx9 := he9.lt
        have x0 : w9.cell? ⟨wr.heap.size, 0, none⟩ = some (.int .i64 i0) := by have := he9.cell (j := 0) rfl; rwa [Nat.zero_add] at this
        have x1 : w9.cell? ⟨wr.heap.size, 1, none⟩ = some (.int .i64 i1) := by have := he9.cell (j := 1) rfl; rwa [Nat.zero_add] at this
        have x2 : w9.cell? ⟨wr.heap.size, 2, none⟩ = some (.int .i64 i2) := by have := he9.cell (j := 2) rfl; rwa [Nat.zero_add] at this
        have x3 : w9.cell? ⟨wr.heap.size, 3, none⟩ = some (.string s3) := by have := he9.cell (j := 3) rfl; rwa [Nat.zero_add] at this
        have x4 : w9.cell? ⟨wr.heap.size, 4, none⟩ = some (.string s4) := by have := he9.cell (j := 4) rfl; rwa [Nat.zero_add] at this
        have x5 : w9.cell? ⟨wr.heap.size, 5, none⟩ = some (.string s5) := by have := he9.cell (j := 5) rfl; rwa [Nat.zero_add] at this
        have x6 : w9.cell? ⟨wr.heap.size, 6, none⟩ = some (.slice a6 n6 c6) := by have := he9.cell (j := 6) rfl; rwa [Nat.zero_add] at this
        clear hput E2 hf9 hp9 he9 hs9 HF2 HP2 HE2 HS2
        go_wp2
        refine wp_region_held_drew (S := (fun _ : World => True)) (by kernel_rfl) (trivial) (fun hS => ?_)
        refine wpAnyH_take (i := 0) (v := ?_) rfl (by kernel_rfl) (by kernel_rfl) (by kernel_rfl) (fun _ _ _ h => h) (Or.inl ⟨by rfl, ?_⟩) hS ?_
        rotate_left
        · (intro w hSw; (try dsimp only at hSw); go_simp; try (with_reducible rfl))
        try simp only [Act.put, List.setIfInBounds_toArray]
        refine wpAnyH_take (i := 1) (v := ?_) rfl (by kernel_rfl) (by kernel_rfl) (by kernel_rfl) (fun _ _ _ h => h) (Or.inl ⟨by rfl, ?_⟩) hS ?_
        rotate_left
        · (intro w hSw; (try dsimp only at hSw); go_simp; try (with_reducible rfl))
        try simp only [Act.put]
        refine wpAnyH_take (i := 2) (v := ?_) rfl (by kernel_rfl) (by kernel_rfl) (by kernel_rfl) (fun _ _ _ h => h) (Or.inl ⟨by rfl, ?_⟩) hS ?_
        rotate_left
        · (intro w hSw; (try dsimp only at hSw); go_simp; try (with_reducible rfl))
        try simp only [Act.put]
        refine wpAnyH_ready (rs := [3, 4]) (by kernel_rfl) (by simp) ?_
        refine (AllReadyH.cons rfl (fun K hK => ?_) (AllReadyH.cons rfl (fun K hK => ?_) AllReadyH.nil))
        · go_simp
          refine hK.out _ _ trivial (fun hS => ?_)
          clear hK K
          try simp only [Act.put, List.setIfInBounds_toArray, List.set_cons_zero, List.set_cons_succ]
          refine wpAnyH_ready (rs := [4]) (by kernel_rfl) (by simp) ?_
          refine (AllReadyH.cons rfl (fun K hK => ?_) AllReadyH.nil)
          go_simp
          refine hK.out _ _ trivial (fun hS => ?_)
          clear hK K
          try simp only [Act.put, List.setIfInBounds_toArray, List.set_cons_zero, List.set_cons_succ]
          refine wpAnyH_ready (rs := [5]) (by kernel_rfl) (by simp) ?_
          refine (AllReadyH.cons rfl (fun K hK => ?_) AllReadyH.nil)
          go_simp
          refine hK.out _ _ trivial (fun hS => ?_)
          clear hK K
          try simp only [Act.put, List.setIfInBounds_toArray, List.set_cons_zero, List.set_cons_succ]
          refine wpAnyH_ready (rs := [6]) (by kernel_rfl) (by simp) ?_
          refine (AllReadyH.cons rfl (fun K hK => ?_) AllReadyH.nil)
          refine step_append_ex (by rfl) _ _ 26 (by rfl) v (.slice (some ⟨w9.heap.size, 0, none⟩) 1 1) (by rfl) (by rfl) HA.out ?_
          rintro _ w5 ⟨⟨a5, m5, d5, rfl⟩, k1, k2, k3, HW⟩
          refine hK.out _ _ trivial (fun hS => ?_)
          clear hK K
          try simp only [Act.put, List.setIfInBounds_toArray]
          refine wpAnyH_take (i := 7) (v := ?_) rfl (by kernel_rfl) (by kernel_rfl) (by kernel_rfl) (fun _ _ _ h => h) (Or.inl ⟨by rfl, ?_⟩) hS ?_
          rotate_left
          · (intro w hSw; (try dsimp only at hSw); go_simp; try (with_reducible rfl))
          try simp only [Act.put]
          refine wpAnyH_ready (rs := [8]) (by kernel_rfl) (by simp) ?_
          refine (AllReadyH.cons rfl (fun K hK => ?_) AllReadyH.nil)
          go_simp
          refine hK.out _ _ trivial (fun hS => ?_)
          clear hK K
          try simp only [Act.put, List.setIfInBounds_toArray, List.set_cons_zero, List.set_cons_succ]
          refine wpAnyH_done (by kernel_rfl) ?_ _
          have HTk := Hid.mk' (take_any [44] (by decide) (by decide) HW.out.choose_spec.1.1)
          go_wp2_with fail
          refine (HTk.out).mono ?_
          rintro e w7 ⟨hf7, ⟨n7, rfl, hp7⟩ | ⟨R2, n7, rfl, hp7⟩⟩
          · have hfin := Lst.done (T := 56) hpw HW.out hf7 hp7 (Nat.le_refl _) hSh
            rw [n7] at HQ
            have HF := Hid.mk' hfin
            have HR := Hid.mk' (HR0.out.trans HQ.out)
            clear hfin hf7 hp7 n7 HTk HQ
            go_wp2
            go_ret
            rw [HR.out]
            exact HF.out
          · have hst := Lst.tick hpw HW.out hf7 hp7 (Z.tk_le n7) hSh
            have hR2 := Z.tk_le n7
            rw [n7] at HQ
            have HF := Hid.mk' hst
            have HR := Hid.mk' (HR0.out.trans HQ.out)
            have hlt7 := Z.tk_lt (by decide) n7
            clear hst hf7 hp7 n7 HTk HQ
            go_wp2
            go_roundg c2
            case measure => omega
            case rel => exact ⟨R2, m1, _, _, HF, HR, by omega, by omega⟩
        · go_simp
          refine hK.out _ _ trivial (fun hS => ?_)
          clear hK K
          try simp only [Act.put, List.setIfInBounds_toArray, List.set_cons_zero, List.set_cons_succ]
          refine wpAnyH_ready (rs := [3, 5]) (by kernel_rfl) (by simp) ?_
          refine (AllReadyH.cons rfl (fun K hK => ?_) (AllReadyH.cons rfl (fun K hK => ?_) AllReadyH.nil))
          · go_simp
            refine hK.out _ _ trivial (fun hS => ?_)
            clear hK K
            try simp only [Act.put, List.setIfInBounds_toArray, List.set_cons_zero, List.set_cons_succ]
            refine wpAnyH_ready (rs := [5]) (by kernel_rfl) (by simp) ?_
            refine (AllReadyH.cons rfl (fun K hK => ?_) AllReadyH.nil)
            go_simp
            refine hK.out _ _ trivial (fun hS => ?_)
            clear hK K
            try simp only [Act.put, List.setIfInBounds_toArray, List.set_cons_zero, List.set_cons_succ]
            refine wpAnyH_ready (rs := [6]) (by kernel_rfl) (by simp) ?_
            refine (AllReadyH.cons rfl (fun K hK => ?_) AllReadyH.nil)
            refine step_append_ex (by rfl) _ _ 26 (by rfl) v (.slice (some ⟨w9.heap.size, 0, none⟩) 1 1) (by rfl) (by rfl) HA.out ?_
            rintro _ w5 ⟨⟨a5, m5, d5, rfl⟩, k1, k2, k3, HW⟩
            refine hK.out _ _ trivial (fun hS => ?_)
            clear hK K
            try simp only [Act.put, List.setIfInBounds_toArray]
            refine wpAnyH_take (i := 7) (v := ?_) rfl (by kernel_rfl) (by kernel_rfl) (by kernel_rfl) (fun _ _ _ h => h) (Or.inl ⟨by rfl, ?_⟩) hS ?_
            rotate_left
            · (intro w hSw; (try dsimp only at hSw); go_simp; try (with_reducible rfl))
            try simp only [Act.put]
            refine wpAnyH_ready (rs := [8]) (by kernel_rfl) (by simp) ?_
            refine (AllReadyH.cons rfl (fun K hK => ?_) AllReadyH.nil)
            go_simp
            refine hK.out _ _ trivial (fun hS => ?_)
            clear hK K
            try simp only [Act.put, List.setIfInBounds_toArray, List.set_cons_zero, List.set_cons_succ]
            refine wpAnyH_done (by kernel_rfl) ?_ _
            have HTk := Hid.mk' (take_any [44] (by decide) (by decide) HW.out.choose_spec.1.1)
            go_wp2_with fail
            refine (HTk.out).mono ?_
            rintro e w7 ⟨hf7, ⟨n7, rfl, hp7⟩ | ⟨R2, n7, rfl, hp7⟩⟩
            · have hfin := Lst.done (T := 56) hpw HW.out hf7 hp7 (Nat.le_refl _) hSh
              rw [n7] at HQ
              have HF := Hid.mk' hfin
              have HR := Hid.mk' (HR0.out.trans HQ.out)
              clear hfin hf7 hp7 n7 HTk HQ
              go_wp2
              go_ret
              rw [HR.out]
              exact HF.out
            · have hst := Lst.tick hpw HW.out hf7 hp7 (Z.tk_le n7) hSh
              have hR2 := Z.tk_le n7
              rw [n7] at HQ
              have HF := Hid.mk' hst
              have HR := Hid.mk' (HR0.out.trans HQ.out)
              have hlt7 := Z.tk_lt (by decide) n7
              clear hst hf7 hp7 n7 HTk HQ
              go_wp2
              go_roundg c2
              case measure => omega
              case rel => exact ⟨R2, m1, _, _, HF, HR, by omega, by omega⟩
          · go_simp
            refine hK.out _ _ trivial (fun hS => ?_)
            clear hK K
            try simp only [Act.put, List.setIfInBounds_toArray, List.set_cons_zero, List.set_cons_succ]
            refine wpAnyH_ready (rs := [3]) (by kernel_rfl) (by simp) ?_
            refine (AllReadyH.cons rfl (fun K hK => ?_) AllReadyH.nil)
            go_simp
            refine hK.out _ _ trivial (fun hS => ?_)
            clear hK K
            try simp only [Act.put, List.setIfInBounds_toArray, List.set_cons_zero, List.set_cons_succ]
            refine wpAnyH_ready (rs := [6]) (by kernel_rfl) (by simp) ?_
            refine (AllReadyH.cons rfl (fun K hK => ?_) AllReadyH.nil)
            refine step_append_ex (by rfl) _ _ 26 (by rfl) v (.slice (some ⟨w9.heap.size, 0, none⟩) 1 1) (by rfl) (by rfl) HA.out ?_
            rintro _ w5 ⟨⟨a5, m5, d5, rfl⟩, k1, k2, k3, HW⟩
            refine hK.out _ _ trivial (fun hS => ?_)
            clear hK K
            try simp only [Act.put, List.setIfInBounds_toArray]
            refine wpAnyH_take (i := 7) (v := ?_) rfl (by kernel_rfl) (by kernel_rfl) (by kernel_rfl) (fun _ _ _ h => h) (Or.inl ⟨by rfl, ?_⟩) hS ?_
            rotate_left
            · (intro w hSw; (try dsimp only at hSw); go_simp; try (with_reducible rfl))
            try simp only [Act.put]
            refine wpAnyH_ready (rs := [8]) (by kernel_rfl) (by simp) ?_
            refine (AllReadyH.cons rfl (fun K hK => ?_) AllReadyH.nil)
            go_simp
            refine hK.out _ _ trivial (fun hS => ?_)
            clear hK K
            try simp only [Act.put, List.setIfInBounds_toArray, List.set_cons_zero, List.set_cons_succ]
            refine wpAnyH_done (by kernel_rfl) ?_ _
            have HTk := Hid.mk' (take_any [44] (by decide) (by decide) HW.out.choose_spec.1.1)
            go_wp2_with fail
            refine (HTk.out).mono ?_
            rintro e w7 ⟨hf7, ⟨n7, rfl, hp7⟩ | ⟨R2, n7, rfl, hp7⟩⟩
            · have hfin := Lst.done (T := 56) hpw HW.out hf7 hp7 (Nat.le_refl _) hSh
              rw [n7] at HQ
              have HF := Hid.mk' hfin
              have HR := Hid.mk' (HR0.out.trans HQ.out)
              clear hfin hf7 hp7 n7 HTk HQ
              go_wp2
              go_ret
              rw [HR.out]
              exact HF.out
            · have hst := Lst.tick hpw HW.out hf7 hp7 (Z.tk_le n7) hSh
              have hR2 := Z.tk_le n7
              rw [n7] at HQ
              have HF := Hid.mk' hst
              have HR := Hid.mk' (HR0.out.trans HQ.out)
              have hlt7 := Z.tk_lt (by decide) n7
              clear hst hf7 hp7 n7 HTk HQ
              go_wp2
              go_roundg c2
              case measure => omega
              case rel => exact ⟨R2, m1, _, _, HF, HR, by omega, by omega⟩
      · have hZ : Fr [] w2 (w2.alloc (.cells #[.bool true] 4)).drew := Fr.of_alloc (fs := []) w2 _
        generalize (w2.alloc (.cells #[.bool true] 4)).drew = w9 at hZ ⊢
        have hf9 := HF2.out.trans hZ (by simp)
        have hp9 := HP2.out.keep hZ
        have he9 := HE2.out.fr hZ (by simp)
        have hs9 := hSh.on (w' := w9) (ok' := fun b => (wr.alloc (.cells zE.toArray 56)).heap.size ≤ b ∧ b < w9.heap.size) (fun b hb => ⟨⟨hb.1, Nat.lt_of_lt_of_le hb.2 hZ.2.1⟩, hZ.2.2 b hb.2 (by simp)⟩) x _ HS2.out
        have zz := hZ.2.1
        clear hZ
        have HA := Hid.mk' (Lst.room hSh HL.out hgw hpw (Fr.of_alloc wr (.cells zE.toArray 56)) (Nat.le_refl _) (by simp) hf9 hp9 he9 hs9 hEx.out hlt1)
        have E9 : EL w9 g o T0 cur [v] := by
          obtain ⟨row, hP, _⟩ := HL.out
          exact (hP.keep (Fr.of_alloc wr (.cells zE.toArray 56))).2.1.fr hf9 (by simp; exact ⟨hne, by have := hP.2.1.lt; omega⟩)
        have z1 : w9.cell? ⟨g, o, none⟩ = some v := E9.cell (j := 0) rfl
        obtain ⟨row, _, ho, _⟩ := HL.out
        obtain ⟨av, cv, rfl, _⟩ := owned_rows (P := Tryz.prog) ho
        have zg := E9.lt
        have zf := E9.fz
        have hl31 : l.length ≤ 1000000 := by obtain ⟨_, _, _, h, _⟩ := HL.out; omega
        clear E9 hf9 hp9 he9 hs9 HF2 HP2 HE2 HS2 ho
        go_wp2_with (at_builtin; refine wpList_append_run rfl _ _ 26 26 rfl _ _ rfl rfl HA.out ?_; rintro v5 w5 ⟨gb, cap, rfl, k1, k2, k3, k4, k5, k6, k7, HX, HB5, HW⟩; obtain ⟨cb, hcb⟩ := HB5.out; obtain ⟨e0, e1, e2, e3, e4, e5, e6⟩ := hcb.at7; clear hcb; have ylt := HX.out.lt; obtain ⟨y0, y1, y2, y3, y4, y5, y6⟩ := HX.out.at7; simp only [Nat.zero_add] at y1 y2 y3 y4 y5 y6)
        have HTk := Hid.mk' (take_any [44] (by decide) (by decide) HW.out.choose_spec.1.1)
        go_wp2_with fail
        refine (HTk.out).mono ?_
        rintro e w7 ⟨hf7, ⟨n7, rfl, hp7⟩ | ⟨R2, n7, rfl, hp7⟩⟩
        · have hfin := Lst.done (T := 56) hpw HW.out hf7 hp7 (Nat.le_refl _) hSh
          rw [n7] at HQ
          have HF := Hid.mk' hfin
          have HR := Hid.mk' (HR0.out.trans HQ.out)
          clear hfin hf7 hp7 n7 HTk HQ
          go_wp2
          go_ret
          rw [HR.out]
          exact HF.out
        · have hst := Lst.tick hpw HW.out hf7 hp7 (Z.tk_le n7) hSh
          have hR2 := Z.tk_le n7
          rw [n7] at HQ
          have HF := Hid.mk' hst
          have HR := Hid.mk' (HR0.out.trans HQ.out)
          have hlt7 := Z.tk_lt (by decide) n7
          clear hst hf7 hp7 n7 HTk HQ
          go_wp2
          go_roundg c2
          case measure => omega
          case rel => exact ⟨R2, m1, _, _, HF, HR, by omega, by omega⟩

end Go.Proofs.YtmepkmhfjgocgaaGreatDoor
