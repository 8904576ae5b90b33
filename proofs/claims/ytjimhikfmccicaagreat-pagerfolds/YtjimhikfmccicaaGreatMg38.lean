/-
  A part of the proof.
-/
import Derived.Test.YtjimhikfmccicaaGreatMg34
import Derived.Test.YtjimhikfmccicaaGreatMg37
import Derived.Test.YtjimhikfmccicaaGreatNw
import Derived.Test.YtjimhikfmccicaaGreatMg24
namespace Go.Proofs.YtjimhikfmccicaaGreat
open Go.ChangeShapes Go.WideShapes Go.ChangeAt Go.RowKit Go.Deep Go.Maps Go.Sort Go.Shelf
theorem getD_memG (L : List GR) {i : Nat} (h : i < L.length) : L.getD i g0 ∈ L := by simp [List.getD_eq_getElem?_getD, h]
theorem GCs_at (R : List GR) : ∀ j, j < R.length -> (GCs R)[j * 2]? = some (.string (R.getD j g0).1) /\ (GCs R)[j * 2 + 1]? = some (R.getD j g0).2.1 := by
 induction R with
 | nil => intro j h; simp at h
 | cons x R ih =>
  intro j h
  have e : GCs (x :: R) = .string x.1 :: x.2.1 :: GCs R := rfl
  cases j with
  | zero => rw [e]; exact ⟨rfl, rfl⟩
  | succ j =>
   obtain ⟨h1, h2⟩ := ih j (by simpa using h)
   rw [e, show (j + 1) * 2 = j * 2 + 1 + 1 by omega]
   refine ⟨by simpa using h1, ?_⟩
   rw [show j * 2 + 1 + 1 + 1 = (j * 2 + 1) + 1 + 1 by omega]
   simpa using h2
theorem Outs.gs {w : World} {b0 : Nat} {v : Value} {R : List GR} (h : Outs w b0 v R) : Gs w v R := by
 obtain ⟨h1, h2, h3⟩ := h
 refine ⟨?_, by omega⟩
 rcases h1.2 with ⟨rfl, h0⟩ | ⟨g, cap, cur, rfl, _, hg, hn, hm, _⟩
 ·exact ⟨none, 0, by rw [h0], fun h => by omega⟩
 ·refine ⟨some ⟨g, 0, none⟩, cap, rfl, fun _ => ⟨g, 0, rfl, fun j hj => ?_⟩⟩
  obtain ⟨e1, e2⟩ := GCs_at R j hj
  have ha : ∀ q, (⟨g, 0, none⟩ : Addr).add q = ⟨g, q, none⟩ := fun q => by unfold Addr.add; split <;> simp_all
  have k1 := h1.cells (g := g) rfl _ _ e1
  have k2 := h1.cells (g := g) rfl _ _ e2
  rw [Nat.zero_add]
  rw [ha] at k1 k2
  exact ⟨k1, k2, (h2 _ (getD_memG R hj)).1.sees⟩
theorem M.sz_step (S : List Nat) (i : Nat) : M.sz S (64 * i) ++ M.sz (S.drop (64 * i)) 64 = M.sz S (64 * (i + 1)) := by
 apply M.eq_of_getD
 ·rw [List.length_append, M.sz_length, M.sz_length, M.sz_length]; omega
 ·intro j hj
  rw [M.sz_length] at hj
  have hg : ∀ (l : List Nat) (n j : Nat), j < n -> (M.sz l n).getD j 0 = l.getD j 0 := by
   intro l n j hj
   by_cases h : n <= l.length
   ·rw [M.sz_cut l h, M.getD_take l hj]
   ·rw [M.sz_fill l (by omega)]
    by_cases h2 : j < l.length
    ·simp [List.getD_eq_getElem?_getD, List.getElem?_append, h2]
    ·rw [M.getD_past l (by omega)]
     simp [List.getD_eq_getElem?_getD, List.getElem?_append, h2, List.getElem?_replicate]
     split <;> rfl
  rw [hg S _ j hj]
  by_cases h : j < 64 * i
  ·have := hg S (64 * i) j h
   simp only [List.getD_eq_getElem?_getD] at this ⊢
   rw [List.getElem?_append_left (by rw [M.sz_length]; exact h)]
   exact this
  ·have := hg (S.drop (64 * i)) 64 (j - 64 * i) (by omega)
   rw [M.getD_drop, show 64 * i + (j - 64 * i) = j by omega] at this
   simp only [List.getD_eq_getElem?_getD] at this ⊢
   rw [List.getElem?_append_right (by rw [M.sz_length]; omega), M.sz_length]
   exact this
theorem M.crash_same (S : List Nat) (ps : List Int) : M.crash S S ps = (S, ps) := by
 have h1 : M.len1 S S ps = (S.length, ps) := by simp [M.len1]
 have h3 : ∀ i, M.secs S S ps i = (M.sz S (64 * i), ps) := by
  intro i
  induction i with
  | zero => simp [M.secs, M.sz]
  | succ i ih => rw [M.secs, ih]; simp only [M.sec1, if_true]; rw [M.sz_step]
 unfold M.crash
 rw [h1, h3]
 have h2 : S.length <= 64 * M.cnt S S := by unfold M.cnt; omega
 simp only
 rw [M.sz_cut _ (by rw [M.sz_length]; exact h2), M.sz_fill S h2]
 simp
theorem crs_length (L : List FR) (ps : List Int) : ∀ k, (crs L ps k).1.length = k
 | 0 => rfl
 | k + 1 => by rw [crs]; simp [crs_length L ps k]
theorem crs_at (L : List FR) (ps : List Int) : ∀ k j, j < k -> (crs L ps k).1[j]? = some ((L.getD j z0).nm, (M.crash (L.getD j z0).safe (L.getD j z0).seen (crs L ps j).2).1)
 | 0, j, h => by omega
 | k + 1, j, h => by
  rw [crs]
  by_cases hj : j < k
  ·rw [List.getElem?_append_left (by rw [crs_length]; exact hj)]
   exact crs_at L ps k j hj
  ·obtain rfl : j = k := by omega
   rw [List.getElem?_append_right (by rw [crs_length]; omega), crs_length]
   simp
theorem crs_same {L : List FR} (h : ∀ x ∈ L, x.safe = x.seen) (ps : List Int) : (crs L ps L.length).1 = L.map (fun x => (x.nm, x.seen)) := by
 apply List.ext_getElem?
 intro j
 by_cases hj : j < L.length
 ·rw [crs_at L ps _ j hj, h _ (getD_mem L hj), M.crash_same]
  simp [List.getD_eq_getElem?_getD, hj]
 ·rw [List.getElem?_eq_none (by rw [crs_length]; omega), List.getElem?_eq_none (by simp; omega)]
theorem crash_cm {w : World} {D n : Nat} {A : List AF} {F : List Nat} (hD : Dz w D n A F) (hs : ∀ x ∈ A, x.2.1 = x.2.2) (pv : Value) (ps : List Int) (hI : Ins w pv ps) (hlt : ∀ a n c, pv = .slice (some a) n c -> 1 <= n -> a.block < w.heap.size) (hPB : M.PB ps) :
  Calls Tryz.prog 26 #[.pointer (some ⟨D, 0, none⟩), pv] w fun e w' => ∃ t R, e = .returned t /\ Outs w' (w.heap.size + 1) t R /\ R.map gab = A.map (fun x => (x.1, x.2.2)) /\ Below w.heap.size w w' := by
 obtain ⟨mb, dv, L, s, hDk, _, hr, hA, _⟩ := hD
 refine (crash_all hDk pv ps hI hlt hPB).mono ?_
 rintro e w' ⟨t, R, rfl, h1, h2, h3⟩
 refine ⟨t, R, rfl, h1, ?_, h3⟩
 rw [h2, crs_same (fun x hx => ?_), <- hA, List.map_map]
 ·rfl
 ·exact hs (fabs x) (by rw [<- hA]; exact List.mem_map_of_mem hx)
theorem new_cm {w : World} {t : Value} {R : List GR} {A : List AF} (hG : Gs w t R) (hR : R.map gab = A.map (fun x => (x.1, x.2.2))) (hs : ∀ x ∈ A, x.2.1 = x.2.2) (hr : M.rise (nmA A)) (hn : ∀ x ∈ A, M.nam x.1 = true) (hl : ∀ x ∈ A, x.2.2.length <= 4194304) (h16 : A.length <= 16) :
  Calls Tryz.prog 8 #[t, .slice none 0 0] w fun e w' => ∃ D F, e = .returned (.tuple #[.pointer (some ⟨D, 0, none⟩), .int .i64 0]) /\ Dz w' D 0 A F /\ (∀ k ∈ F, w.heap.size <= k) /\ Below w.heap.size w w' := by
 have hlen : R.length = A.length := by
  have := congrArg List.length hR
  simpa using this
 have hat : ∀ j, j < R.length -> ∃ x ∈ A, A[j]? = some x /\ (R.getD j g0).1 = x.1 /\ (R.getD j g0).2.2 = x.2.2 := fun j hj => by
  have hjA : j < A.length := by omega
  have h1 := congrArg (fun l : List (ByteArray × List Nat) => l[j]?) hR
  simp only [List.getElem?_map, List.getElem?_eq_getElem hj, List.getElem?_eq_getElem hjA, Option.map_some, Option.some.injEq, gab, Prod.mk.injEq] at h1
  have e : R.getD j g0 = R[j] := by simp [List.getD_eq_getElem?_getD, hj]
  rw [e]
  exact ⟨A[j], List.getElem_mem hjA, by simp [hjA], h1.1, h1.2⟩
 have hok : filesOk R = true := by
  refine fOk_all (fun j hj => ?_) (by omega)
  obtain ⟨x, hx, hxa, e1, e2⟩ := hat j hj
  unfold fOk
  rw [e1, e2, hn x hx, decide_eq_true (hl x hx), Bool.and_self, Bool.true_and]
  by_cases h0 : j = 0
  ·rw [h0]; rfl
  ·obtain ⟨i, rfl⟩ : ∃ i, j = i + 1 := ⟨j - 1, by omega⟩
   obtain ⟨y, hy, hya, f1, f2⟩ := hat i (by omega)
   rw [show i + 1 - 1 = i from rfl, f1, Bool.or_eq_true]
   right
   have hp : (nmA A).Pairwise fun a b => M.less a b = true := hr
   unfold nmA at hp
   rw [List.pairwise_map] at hp
   have := List.pairwise_iff_getElem.1 hp i (i + 1) (by omega) (by omega) (by omega)
   have ei := (List.getElem?_eq_some_iff.1 hya).2
   have ej := (List.getElem?_eq_some_iff.1 hxa).2
   rw [ei, ej] at this
   exact this
 refine (new_any t (.slice none 0 0) R [] w hG (ts_nil w) rfl (by omega) (fun j hj => ?_) (by simp) (fun w1 hb1 => ?_)).mono ?_
 ·obtain ⟨x, hx, _, _, e2⟩ := hat j hj
  rw [e2]
  exact hl x hx
 ·refine (files_any t R w1 (hG.on hb1)).mono ?_
  rintro e w' ⟨rfl, hb⟩
  exact ⟨by rw [hok], hb⟩
 ·rintro e w' ⟨D, mb, v, L, rfl, hD, hb, hf, hL⟩
  have hLA : L.map fabs = A := by
   rw [hL]
   apply List.ext_getElem (by simpa using hlen)
   intro j h1 h2
   rw [List.length_map] at h1
   obtain ⟨x, hx, hxa, e1, e2⟩ := hat j h1
   have ej := (List.getElem?_eq_some_iff.1 hxa).2
   have e : R.getD j g0 = R[j] := by simp [List.getD_eq_getElem?_getD, h1]
   rw [e] at e1 e2
   rw [List.getElem_map, ej]
   have h9 := hs x hx
   obtain ⟨xn, xs, xv⟩ := x
   simp only at h9 e1 e2
   rw [h9]
   show ((R[j]).1, (R[j]).2.2, (R[j]).2.2) = _
   rw [e1, e2]
  exact ⟨D, _, rfl, ⟨mb, v, L, 0, hD, by omega, by rw [<- nmA_fabs, hLA]; exact hr, hLA, rfl⟩, hf, hb⟩
theorem ints_p {H : Type} {enc : TypeId × Value -> H} {W : World} {spare : Nat -> Bool} {held : Bool} {fuel : Nat} {v : Value} {x : DataW H × List MemPlace}
  (h : DataW.trod enc Tryz.prog W 0 spare held fuel 24 [v] = some x) : ∃ l, Ins W v l /\ M.PB l := by
 rcases open_ints Tryz.underlying24 Tryz.underlying3 (by kernel_rfl) h with ⟨hcs, _⟩ | ⟨a, len, cap, zs, hcs, _, hl, hm, hzz, hx, hc, hw⟩
 ·simp at hcs
  subst hcs
  exact ⟨[], Ins.nil W, fun y hy => (by cases hy)⟩
 ·simp at hcs
  subst hcs
  have hzl : len <= zs.length := by rw [hzz]; split <;> omega
  have hlen : (zs.take len).length = len := by simp; omega
  refine ⟨zs.take len, ⟨some a, cap, by rw [hlen], by rw [hlen]; exact hl, by unfold maxLen at hm; omega, fun h1 => ?_⟩, fun y hy => i64_bounds (hw y (List.mem_of_mem_take hy))⟩
  rw [hlen] at h1
  have h0 := hc 0 (by omega)
  have hs : a.spot = none := by simpa [Addr.add] using plain_of h0
  obtain ⟨b, o, e⟩ := a
  simp only at hs
  subst hs
  refine ⟨b, o, rfl, fun j hj => ?_⟩
  rw [hlen] at hj
  have := hc j (by omega)
  rw [add_plain] at this
  rw [this]
  have hjz : j < zs.length := by omega
  congr 2
  simp [List.getD_eq_getElem?_getD, hjz, hj]
def Scp (w : World) (v : Value) (m : Int) (A : List AC) : Prop :=
 ∃ av tv kv ps, v = .agg #[.int .i64 m, av, tv, kv] /\ Acts w av A /\ (∀ x ∈ A, aok x) /\ (-9223372036854775808 <= m /\ m <= 9223372036854775807) /\ Ins w kv ps /\ M.PB ps /\ ∃ a n c, tv = .slice a n c
set_option maxRecDepth 100000 in
theorem scriptp_of {H : Type} {enc : TypeId × Value -> H} {W : World} {v : Value} {d : DataW H} {ps : List MemPlace} (hv : ∃ cs, v = .agg cs /\ cs.size = Tryz.prog.cellsOf 26)
  (h : DataW.Trod enc Tryz.prog W 0 (fun _ => true) true 26 v d ps) : ∃ m A, Scp W v m A := by
 obtain ⟨cs, rfl, hcs⟩ := hv
 obtain ⟨fuel, hf⟩ := h
 obtain ⟨xs, m, _, hx, hl, hxl, hf⟩ := DataW.trod_struct Tryz.underlying26 hf
 obtain ⟨cl⟩ := cs
 simp only [Value.cells] at hl hf
 rw [cwScript] at hl
 match cl, hl, xs, hxl with
 | [c0, c1, c2, c3], _, [y0, y1, y2, y3], _ =>
  have g0 := hf 0 _ rfl
  have g1 := hf 1 _ rfl
  have g2 := hf 2 _ rfl
  have g3 := hf 3 _ rfl
  simp [cwInt, cwActs, cwTrs, cwInts] at g0 g1 g2 g3
  obtain ⟨md, e0, _, w0⟩ := DataW.trod_int Tryz.underlying3 g0
  simp at e0
  obtain ⟨A, h4, h5⟩ := acts_w g1
  obtain ⟨l, h6, h7⟩ := ints_p g3
  have h8 : ∃ a n c, c2 = .slice a n c := by
   rcases open_slice Tryz.underlying23 g2 with ⟨hc, _⟩ | ⟨a, len, cap, m, n, D, Pl, hc, _⟩
   ·simp at hc; exact ⟨_, _, _, hc⟩
   ·simp at hc; exact ⟨_, _, _, hc⟩
  exact ⟨md, A, c1, c2, c3, l, by rw [e0], h4, h5, i64_bounds w0, h6, h7, h8⟩
theorem mode_all (n : Int) (w : World) : Calls Tryz.prog 10 #[.int .i64 n] w fun e w' => ∃ r : Nat, r < 2 /\ e = .returned (.int .i64 (1 + (r : Int))) /\ w' = w := by
 obtain ⟨r, hr, h⟩ := mode_ex n
 exact (h w).mono (fun e w' q => ⟨r, hr, q.1, q.2⟩)
theorem within_all (i : Int) (n : Nat) (N : Int) (hN : N = (n : Int)) (h1 : 1 <= n) (h2 : n <= 9223372036854775807) (w : World) : Calls Tryz.prog 12 #[.int .i64 i, .int .i64 N] w fun e w' => ∃ r : Nat, r < n /\ e = .returned (.int .i64 (r : Int)) /\ w' = w := by
 obtain ⟨r, hr, h⟩ := within_ex i n N hN h1 h2
 exact (h w).mono (fun e w' q => ⟨r, hr, q.1, q.2⟩)
theorem com_nil : H.Com [] [] := ⟨[], [], ⟨List.Pairwise.nil, (fun x hx => by cases hx), rfl, (fun x hx => by cases hx), rfl, rfl, (fun x hx => by cases hx)⟩, (fun x hx => by cases hx), trivial, rfl, by simp⟩
theorem Opn.dz {b0 : Nat} {w : World} {P D : Nat} {md : Int} {lb n : Nat} {F : List Nat} {p now : List (List Nat)} {tl : Nat} {Ms : List (Nat × List (List Nat))} (h : Opn b0 w P D md lb n F p now tl Ms) : ∃ A, Dz w D n A F /\ H.Com A p := by
 obtain ⟨A, q, Bt, B, pb, Pl, ob, f, G, st, lv, cnt, hT, h2', h3, h4, h5, h6, h7, h8, h9⟩ := h
 obtain ⟨g1, g2, g3, g4, g5, g6, g7, g8, g9, g10, g11⟩ := h9
 exact ⟨A, h2', q, Bt, h3, h4, h5, h6, by have := g6.2.2.1; omega⟩
theorem Opn.lt {b0 : Nat} {w : World} {P D : Nat} {md : Int} {lb n : Nat} {F : List Nat} {p now : List (List Nat)} {tl : Nat} {Ms : List (Nat × List (List Nat))} (h : Opn b0 w P D md lb n F p now tl Ms) : (∀ k ∈ F, k < w.heap.size) /\ ∀ k ∈ F, b0 <= k := by
 obtain ⟨A, h1, _⟩ := h.dz
 obtain ⟨A, q, Bt, B, pb, Pl, ob, f, G, st, lv, cnt, hT, h2', h3, h4, h5, h6, h7, h8, h9⟩ := h
 obtain ⟨g1, g2, g3, g4, g5, g6, g7, g8, g9, g10, g11⟩ := h9
 exact ⟨h1.lt, g10.2.2.2⟩
theorem com_new {w : World} {D n : Nat} {A : List AF} {F : List Nat} {p : List (List Nat)} (hD : Dz w D n A F) (hC : H.Com A p) : (∀ x ∈ A, x.2.1 = x.2.2) /\ M.rise (nmA A) /\ (∀ x ∈ A, M.nam x.1 = true) /\ (∀ x ∈ A, x.2.2.length <= 4194304) /\ A.length <= 16 /\ M.has (nmA A) jourN = false := by
 obtain ⟨q, B, hCm, _⟩ := hC
 refine ⟨hCm.2.2.2.1, hCm.1, fun x hx => ?_, fun x hx => ?_, by have := hCm.len; omega, H.cm_jour hCm⟩
 ·rcases hCm.2.1 x hx with h | h
  ·rw [h]; exact nam_base
  ·rw [h]; exact nam_log
 ·have h1 := hD.len x.1
  rw [seen_lk hCm.1, lkA_mem hCm.1 hx] at h1
  exact h1
theorem pv_page {w : World} {F : List Nat} {g : Nat} {b : Int} (hr : Rw w (.slice (some ⟨g, 0, none⟩) 512 512) (pgL b)) (hg : g ∉ F) : H.Pv w F (.slice (some ⟨g, 0, none⟩) 512 512) (pgL b) := ⟨pgL_length b, g, 512, rfl, hg, hr⟩
theorem pgL_lt (b : Int) : ∀ x ∈ pgL b, x < 256 := fun x hx => by
 unfold pgL at hx
 obtain ⟨i, _, rfl⟩ := List.mem_map.1 hx
 omega
end Go.Proofs.YtjimhikfmccicaaGreat
