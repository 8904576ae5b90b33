/-
  The contract of the reference's New.
-/
import Derived.Test.YthkjjebghfcgkaaRq
import Derived.Test.YthkjjebghfcgkaaCt
namespace Go.Proofs.Ythkjjebghfcgkaa
open Go.RowKit Go.Maps

/-- A row of one kind stays where a row of another kind is appended to. -/
theorem Fr.owns_row {w w' : World} {b0 n sz0 : Nat} {e0 : TypeId} {v : Value} {xs : List Value} (hv : w.ownsRow b0 e0 sz0 v n xs) (hF : Fr v.ownBlock.toList w w') {base m size : Nat} {e : TypeId} {u : Value} {ys : List Value} (ho : w.ownsRow base e size u m ys) (hne : e ≠ e0) : w'.ownsRow base e size u m ys := by
  rcases hv.2 with ⟨rfl, _⟩ | ⟨g, cap, cur, rfl, _, hg, _⟩
  · exact hF.owns ho (fun k _ hm => by simp [Value.ownBlock] at hm)
  · exact Fr.owns_ty (g := g) hF hg ho hne

/-- One file more behind the reference's files. -/
theorem RD.push {wx w' : World} {R : Nat} {v v' tv : Value} {L : List FR} {x : FR} {T : List (Int × Int)} {s : Int} {off : Bool} (h : RD wx R v tv L T s off) (hF : Fr v.ownBlock.toList wx w') (ho : w'.ownsRow 0 80 3 v' (L ++ [x]).length (FCs (L ++ [x]))) (hx : Rw wx x.sv x.safe ∧ Rw wx x.nv x.seen) (hl : (L ++ [x]).length ≤ 16) :
    w'.cell? ⟨R, 0, none⟩ = some v ∧ w'.frozen? ⟨R, 0, none⟩ = false ∧ RD (w'.setCell ⟨R, 0, none⟩ v') R v' tv (L ++ [x]) T s off := by
  have hRn : R ∉ v.ownBlock.toList := fun hm => by
    rcases h.2.1.1.2 with ⟨rfl, _⟩ | ⟨g, cap, cur, rfl, _, hg, _⟩
    · simp [Value.ownBlock] at hm
    · obtain rfl : R = g := by simpa [Value.ownBlock] using hm
      have h1 := h.1
      rw [hg] at h1
      simp at h1
  have hR : w'.heap[R]? = some (.cells #[v, tv, .int .i64 s, .bool off] 78 (0, 0)) := by rw [hF.2.2 R (Array.getElem?_eq_some_iff.1 h.1).1 hRn]; exact h.1
  have hS : Fr [R] w' (w'.setCell ⟨R, 0, none⟩ v') := Fr.of_set w' ⟨R, 0, none⟩ _
  have hk : ∀ {y : Value} {l : List Nat}, Rw wx y l → Rw (w'.setCell ⟨R, 0, none⟩ v') y l := fun q => ⟨hS.owns_ty hR (Fr.owns_row h.2.1.1 hF q.1 (by decide)) (by decide), q.2⟩
  refine ⟨by simp [World.cell?, hR], by simp [World.frozen?, hR], by rw [heap_setCell_same w' R 0 _ _ _ hR]; rfl, ⟨hS.owns_ty hR ho (by decide), hl⟩, fun y hy => ?_, hS.owns_ty hR (Fr.owns_row h.2.1.1 hF h.2.2.2.1 (by decide)) (by decide), h.2.2.2.2⟩
  rcases List.mem_append.1 hy with hy | hy
  · exact ⟨hk (h.2.2.1 y hy).1, hk (h.2.2.1 y hy).2⟩
  · obtain rfl : y = x := by simpa using hy
    exact ⟨hk hx.1, hk hx.2⟩

theorem src_file3 {w : World} (t : ByteArray) {a : Option Addr} {n c : Nat} : Src Try.prog 3 76 (.slice (some ⟨w.heap.size, 0, none⟩) 1 1) 1 [.string t, .slice a n c, .slice a n c] (w.alloc (.cells #[.string t, .slice a n c, .slice a n c] 80)) := by
  refine Src.ofSlice _ Try.underlying76 ⟨w.heap.size, 0, none⟩ 1 1 _ rfl (fun j u hj => ?_) (fun u hu => ?_)
  · rw [Addr.add_lit, Nat.zero_add, World.cell?_alloc_at _ _ _ _ rfl]
    match j, hj with
    | 0, hj => exact hj
    | 1, hj => exact hj
    | 2, hj => exact hj
  · simp at hu
    rcases hu with rfl | rfl
    · rfl
    · rfl

/-- What stands at a round of New: k files are there. -/
def RnI (w : World) (R : Nat) (tv : Value) (G : List GR) (T : List (Int × Int)) (k : Nat) (v : Value) (L : List FR) (wr : World) : Prop :=
  L.length = k ∧ RD wr R v tv L T 0 false ∧ L.map fabs = (G.take k).map gabs ∧ (∀ q ∈ rall R v tv L, w.heap.size ≤ q) ∧ Below w.heap.size w wr

theorem RnI.next {w wr w2 : World} {R : Nat} {tv v : Value} {G : List GR} {T : List (Int × Int)} {k : Nat} {L : List FR} (h : RnI w R tv G T k v L wr) (hk : k < G.length) (h16 : G.length ≤ 16) (hb : Below wr.heap.size wr w2) {a : Option Addr} {c : Nat} (hr : Rw w2 (.slice a (G.getD k g0).2.2.length c) (G.getD k g0).2.2) (hf : ∀ q, (Value.slice a (G.getD k g0).2.2.length c).ownBlock = some q → wr.heap.size ≤ q) (bk o : Nat) {nm : ByteArray} (hnm : (G.getD k g0).1 = nm) (p1 : w2.cell? ⟨bk, o, none⟩ = some (.string nm)) (hbk : bk < w.heap.size) :
    ∃ v' w', (Builtin.append_ #[76, 76] 76 #[v, .slice (some ⟨w2.drew.heap.size, 0, none⟩) 1 1]).run Try.prog (w2.drew.alloc (.cells #[.string nm, .slice a (G.getD k g0).2.2.length c, .slice a (G.getD k g0).2.2.length c] 80)) = .ok v' w' ∧
      ((∃ a' c', v' = .slice a' (k + 1) c') ∧ w'.cell? ⟨R, 0, none⟩ = some v ∧ w'.frozen? ⟨R, 0, none⟩ = false ∧ w'.cell? ⟨bk, o, none⟩ = some (.string nm) ∧ ∃ L', RnI w R tv G T (k + 1) v' L' (w'.setCell ⟨R, 0, none⟩ v')) := by
  obtain ⟨hl, hD, hab, hfe, hB⟩ := h
  have hb3 : Below wr.heap.size wr (w2.drew.alloc (.cells #[.string nm, .slice a (G.getD k g0).2.2.length c, .slice a (G.getD k g0).2.2.length c] 80)) := hb.drew.alloc (by simpa using hb.size) _
  have hb2 : Below w2.heap.size w2 (w2.drew.alloc (.cells #[.string nm, .slice a (G.getD k g0).2.2.length c, .slice a (G.getD k g0).2.2.length c] 80)) := (Below.refl _ _).drew.alloc (by simp) _
  have hD3 := hD.on hb3
  have hs : Src Try.prog 3 76 (.slice (some ⟨w2.drew.heap.size, 0, none⟩) 1 1) 1 (FCs [((nm, .slice a (G.getD k g0).2.2.length c, .slice a (G.getD k g0).2.2.length c, (G.getD k g0).2.2, (G.getD k g0).2.2) : FR)]) (w2.drew.alloc (.cells #[.string nm, .slice a (G.getD k g0).2.2.length c, .slice a (G.getD k g0).2.2.length c] 80)) := src_file3 nm
  have hvf : ∀ q, v.ownBlock = some q → w.heap.size ≤ q := fun q hq => hfe q (by simp [rall, hq])
  have hRw : Rws w (w2.drew.alloc (.cells #[.string nm, .slice a (G.getD k g0).2.2.length c, .slice a (G.getD k g0).2.2.length c] 80)) v L := ⟨hD3.2.1.1, hvf, hB.trans (hb3.mono hB.size)⟩
  obtain ⟨v', w', q1, q2, q3⟩ := append_files2 hRw hs rfl (by simp; omega)
  have hl1 : (L ++ [((nm, .slice a (G.getD k g0).2.2.length c, .slice a (G.getD k g0).2.2.length c, (G.getD k g0).2.2, (G.getD k g0).2.2) : FR)]).length = k + 1 := by simp [hl]
  have hr3 : Rw (w2.drew.alloc (.cells #[.string nm, .slice a (G.getD k g0).2.2.length c, .slice a (G.getD k g0).2.2.length c] 80)) (.slice a (G.getD k g0).2.2.length c) (G.getD k g0).2.2 := ⟨owns_keep hr.1 hb2, hr.2⟩
  obtain ⟨r1, r2, r3⟩ := hD3.push q3 q2.1 ⟨hr3, hr3⟩ (by rw [hl1]; omega)
  have hbk2 : bk ∉ v.ownBlock.toList := fun hm => by have := hvf bk (by simpa using hm); omega
  refine ⟨v', w', q1, ?_, r1, r2, q3.cell (cell_on hb2 p1) hbk2, L ++ [((nm, .slice a (G.getD k g0).2.2.length c, .slice a (G.getD k g0).2.2.length c, (G.getD k g0).2.2, (G.getD k g0).2.2) : FR)], hl1, r3, ?_, fun q hq => ?_, ?_⟩
  · have h1 := q2.1
    rw [hl1] at h1
    rcases h1.2 with ⟨_, h0⟩ | ⟨g, cap, cur, hv, _⟩
    · omega
    · exact ⟨_, _, hv⟩
  · have e : G[k] = G.getD k g0 := by simp [List.getD_eq_getElem?_getD, hk]
    rw [List.map_append, hab, List.take_succ_eq_append_getElem hk, List.map_append, e, ← hnm, List.map_cons, List.map_cons, List.map_nil, List.map_nil]
  · simp only [rall, List.mem_cons, List.mem_append] at hq
    rcases hq with hq | hq | hq | hq
    · exact hfe q (by simp [rall, hq])
    · exact q2.2.1 q (by simpa using hq)
    · exact hfe q (by simp only [rall, List.mem_cons, List.mem_append]; exact .inr (.inr (.inl hq)))
    · obtain ⟨y, hy, hq⟩ := List.mem_flatMap.1 hq
      rcases List.mem_append.1 hy with hy | hy
      · exact hfe q (by simp only [rall, List.mem_cons, List.mem_append]; exact .inr (.inr (.inr (List.mem_flatMap.2 ⟨y, hy, hq⟩))))
      · obtain rfl := by simpa using hy
        have h1 : w.heap.size ≤ wr.heap.size := hB.size
        simp only [feet1, List.mem_append] at hq
        rcases hq with hq | hq
        · exact Nat.le_trans h1 (hf q (by simpa using hq))
        · exact Nat.le_trans h1 (hf q (by simpa using hq))
  · exact ((hB.trans (hb3.mono hB.size)).trans (q3.below (by have := hb3.size; have := hB.size; omega) (fun q hq => hvf q (by simpa using hq)))).setCell (p := ⟨R, 0, none⟩) (hfe R (by simp [rall])) _

set_option maxRecDepth 100000 in
set_option maxHeartbeats 4000000 in
theorem rnew_any (fv tv : Value) (G : List GR) (T : List (Int × Int)) (w : World) (hG : Gs w fv G) (hT : Ts w tv T) (h16 : G.length ≤ 16) (hT50 : T.length ≤ 100) (hlen : ∀ j, j < G.length → (G.getD j g0).2.2.length ≤ 4194304) :
    Calls Try.prog 14 #[fv, tv] w fun e w' => ∃ R v tv' L, e = .returned (.pointer (some ⟨R, 0, none⟩)) ∧ RnI w R tv' G T G.length v L w' := by
  have HG := Hid.mk' hG
  have HLn := Hid.mk' hlen
  obtain ⟨⟨fa, fc, rfl, hfc⟩, hfm⟩ := hG
  have HCt := Hid.mk' (copytroubles_any tv T w hT hT50)
  obtain ⟨⟨ta, tc, rfl, _⟩, htm⟩ := hT
  clear hlen
  go_enter Try.func14, Try.ntmps14
  go_wp2_with fail
  refine HCt.out.mono ?_
  rintro e w1 ⟨tv', rfl, ho1, hb1⟩
  have hts : ∃ a c, tv' = .slice a T.length c := by
    rcases ho1.2 with ⟨rfl, h0⟩ | ⟨g, cap, cur, rfl, _⟩
    · exact ⟨none, 0, by rw [h0]⟩
    · exact ⟨_, _, rfl⟩
  obtain ⟨xa, xc, rfl⟩ := hts
  have HI0 : Hid (RnI w w1.heap.size (.slice xa T.length xc) G T 0 (.slice none 0 0) [] (w1.alloc (.cells #[.slice none 0 0, .slice xa T.length xc, .int .i64 0, .bool false] 78))) := by
    have hb2 : Below w1.heap.size w1 (w1.alloc (.cells #[.slice none 0 0, .slice xa T.length xc, .int .i64 0, .bool false] 78)) := (Below.refl _ _).alloc (Nat.le_refl _) _
    refine ⟨rfl, ⟨heap_alloc_new w1 _, ⟨World.ownsRow_nil _ _ _ _, by simp⟩, (fun x hx => by cases hx), owns_base (owns_keep ho1 hb2) (Nat.zero_le _), hT50⟩, rfl, fun q hq => ?_, hb1.trans (hb2.mono hb1.size)⟩
    simp only [rall, feet, List.mem_cons, List.mem_append] at hq
    rcases hq with hq | hq | hq | hq
    · rw [hq]; exact hb1.size
    · simp [Value.ownBlock] at hq
    · exact (ho1.lt q (by simpa using hq)).1
    · simp at hq
  go_upto_region 2 with fail
  generalize w1.alloc (.cells #[.slice none 0 0, .slice xa T.length xc, .int .i64 0, .bool false] 78) = w3 at *
  generalize w1.heap.size = R at *
  generalize Value.slice xa T.length xc = tv2 at *
  clear ho1 hb1 HCt
  go_wp2_with fail
  go_loopw [6] (fun i wr => ∃ (k : Nat) (v : Value) (L : List FR), k ≤ G.length ∧ i = .int .i64 k ∧ RnI w R tv2 G T k v L wr) (fun i _ => G.length - (intOf i).toNat)
  case atStart => exact ⟨0, _, _, by omega, rfl, HI0.out⟩
  case round =>
    clear HI0
    obtain ⟨k, v, L, hk, rfl, hI⟩ := hrel
    have HI := Hid.mk' hI
    have hb := hI.2.2.2.2
    have hsz := hb.size
    by_cases hlt : k < G.length
    · obtain ⟨b, o, rfl, hc⟩ := hfc (by omega)
      obtain ⟨c0, c1, hs⟩ := hc k hlt
      have hbw := World.block_lt_of_cell? _ _ c0
      have HS := Hid.mk' (hs.below hb)
      obtain ⟨sa, sc, hse⟩ := hs.slice
      rw [hse] at c1 HS
      replace c0 := cell_on hb c0
      replace c1 := cell_on hb c1
      have HL4 := Hid.mk' (HLn.out k hlt)
      obtain ⟨z0, _, _, _, _⟩ := hI.2.1.cells
      obtain ⟨va, vc, hve, _, _, _⟩ := hI.2.1.files
      rw [hI.1] at hve
      subst hve
      have hRl := hI.2.1.lt R (by simp [rall])
      have hRw := hI.2.2.2.1 R (by simp [rall])
      have hbR : b ≠ R := by
        have : b < w.heap.size := hbw
        omega
      clear hc hfc hs hse hI
      have HNx := Hid.mk' (fun (w2 : World) (hb2 : Below wr.heap.size wr w2) (a : Option Addr) (c : Nat) (h1 : Rw w2 (.slice a (G.getD k g0).2.2.length c) (G.getD k g0).2.2) (h2 : ∀ q, (Value.slice a (G.getD k g0).2.2.length c).ownBlock = some q → wr.heap.size ≤ q) => HI.out.next hlt h16 hb2 h1 h2 b (o + k * 2) rfl (cell_on hb2 c0) hbw)
      generalize (G.getD k g0).1 = nm at *
      obtain ⟨n, hn⟩ : ∃ n, (G.getD k g0).2.2.length = n := ⟨_, rfl⟩
      have HN := Hid.mk' hn
      rw [hn] at HNx HL4 HS c1
      clear hn
      go_wp2_with fail
      refine (copy_any _ _ wr HS.out (by rw [HN.out]; have := HL4.out; omega)).mono ?_
      rintro e w2 ⟨u, rfl, ho2, hb2⟩
      rw [HN.out] at ho2
      have hus : ∃ a c, u = .slice a n c := by
        rcases ho2.2 with ⟨rfl, h0⟩ | ⟨g, cap, cur, rfl, _⟩
        · exact ⟨none, 0, by rw [h0]⟩
        · exact ⟨_, _, rfl⟩
      obtain ⟨ua, uc, rfl⟩ := hus
      have HAp := Hid.mk' (HNx.out w2 hb2 ua uc ⟨by rw [HN.out]; exact owns_base ho2 (Nat.zero_le _), by rw [HN.out]; exact HL4.out⟩ (fun q hq => (ho2.lt q hq).1))
      have p1 := cell_on hb2 c0
      replace z0 := cell_on hb2 z0
      have zz := cell_on (((Below.refl _ w2)).alloc (Nat.le_refl _) (.cells #[.string nm, .slice ua n uc, .slice ua n uc] 80)) z0
      clear ho2 hb2 HNx c0 c1 HS
      go_upto_region 6 with fail
      refine wp_region_held_drew (S := (fun w' : World => w'.cell? ⟨b, o + k * 2, none⟩ = some (.string nm))) (by kernel_rfl) (p1) (fun hS => ?_)
      refine wpAnyH_take (i := 0) (v := ?_) rfl (by kernel_rfl) (by kernel_rfl) (by kernel_rfl) (fun _ _ _ h => h) (Or.inl ⟨by rfl, ?_⟩) hS ?_
      rotate_left
      · (intro w hSw; (try dsimp only at hSw); go_simp; try (with_reducible rfl))
      try simp only [Act.put, List.setIfInBounds_toArray]
      refine wpAnyH_take (i := 1) (v := ?_) rfl (by kernel_rfl) (by kernel_rfl) (by kernel_rfl) (fun _ _ _ h => h) (Or.inl ⟨by rfl, ?_⟩) hS ?_
      rotate_left
      · (intro w hSw; (try dsimp only at hSw); go_simp; try (with_reducible rfl))
      try simp only [Act.put]
      refine wpAnyH_take (i := 2) (v := ?_) rfl (by kernel_rfl) (by kernel_rfl) (by kernel_rfl) (fun _ _ _ h => h) (Or.inl ⟨by rfl, ?_⟩) hS ?_
      rotate_left
      · (intro w hSw; (try dsimp only at hSw); go_simp; try (with_reducible rfl))
      try simp only [Act.put]
      refine wpAnyH_take (i := 3) (v := ?_) rfl (by kernel_rfl) (by kernel_rfl) (by kernel_rfl) (fun _ _ _ h => h) (Or.inl ⟨by rfl, ?_⟩) hS ?_
      rotate_left
      · (intro w hSw; (try dsimp only at hSw); go_simp; try (with_reducible rfl))
      try simp only [Act.put]
      refine wpAnyH_take (i := 5) (v := ?_) rfl (by kernel_rfl) (by kernel_rfl) (by kernel_rfl) (fun _ _ _ h => h) (Or.inl ⟨by rfl, ?_⟩) hS ?_
      rotate_left
      · (intro w hSw; (try dsimp only at hSw); go_simp; try (with_reducible rfl))
      try simp only [Act.put]
      refine wpAnyH_take (i := 6) (v := ?_) rfl (by kernel_rfl) (by kernel_rfl) (by kernel_rfl) (fun _ _ _ h => h) (Or.inl ⟨by rfl, ?_⟩) hS ?_
      rotate_left
      · (intro w hSw; (try dsimp only at hSw); go_simp; try (with_reducible rfl))
      try simp only [Act.put]
      refine wpAnyH_take (i := 7) (v := ?_) rfl (by kernel_rfl) (by kernel_rfl) (by kernel_rfl) (fun _ _ _ h => h) (Or.inl ⟨by rfl, ?_⟩) hS ?_
      rotate_left
      · (intro w hSw; (try dsimp only at hSw); go_simp; try (with_reducible rfl))
      try simp only [Act.put]
      refine wpAnyH_take (i := 8) (v := ?_) rfl (by kernel_rfl) (by kernel_rfl) (by kernel_rfl) (fun _ _ _ h => h) (Or.inl ⟨by rfl, ?_⟩) hS ?_
      rotate_left
      · (intro w hSw; (try dsimp only at hSw); go_simp; try (with_reducible rfl))
      try simp only [Act.put]
      refine wpAnyH_take (i := 9) (v := ?_) rfl (by kernel_rfl) (by kernel_rfl) (by kernel_rfl) (fun _ _ _ h => h) (Or.inl ⟨by rfl, ?_⟩) hS ?_
      rotate_left
      · (intro w hSw; (try dsimp only at hSw); go_simp; try (with_reducible rfl))
      try simp only [Act.put]
      refine wpAnyH_take (i := 10) (v := ?_) rfl (by kernel_rfl) (by kernel_rfl) (by kernel_rfl) (fun _ _ _ h => h) (Or.inl ⟨by rfl, ?_⟩) hS ?_
      rotate_left
      · (intro w hSw; (try dsimp only at hSw); go_simp; try (with_reducible rfl))
      try simp only [Act.put]
      refine wpAnyH_take (i := 11) (v := ?_) rfl (by kernel_rfl) (by kernel_rfl) (by kernel_rfl) (fun _ _ _ h => h) (Or.inl ⟨by rfl, ?_⟩) hS ?_
      rotate_left
      · (intro w hSw; (try dsimp only at hSw); go_simp; try (with_reducible rfl))
      try simp only [Act.put]
      refine wpAnyH_take (i := 12) (v := ?_) rfl (by kernel_rfl) (by kernel_rfl) (by kernel_rfl) (fun _ _ _ h => h) (Or.inl ⟨by rfl, ?_⟩) hS ?_
      rotate_left
      · (intro w hSw; (try dsimp only at hSw); go_simp; try (with_reducible rfl))
      try simp only [Act.put]
      refine wpAnyH_ready (rs := [4, 13]) (by kernel_rfl) (by simp) ?_
      refine (AllReadyH.cons rfl (fun K hK => ?_) (AllReadyH.cons rfl (fun K hK => ?_) AllReadyH.nil))
      · go_simp
        refine hK.out _ _ hS (fun hS => ?_)
        clear hK K
        try simp only [Act.put, List.setIfInBounds_toArray, List.set_cons_zero, List.set_cons_succ]
        refine wpAnyH_ready (rs := [13]) (by kernel_rfl) (by simp) ?_
        refine (AllReadyH.cons rfl (fun K hK => ?_) AllReadyH.nil)
        go_simp
        refine hK.out _ _ (cell_on (((Below.refl _ w2).drew).alloc (Nat.le_refl _) _) p1) (fun hS => ?_)
        clear hK K
        try simp only [Act.put, List.setIfInBounds_toArray, List.set_cons_zero, List.set_cons_succ]
        refine wpAnyH_ready (rs := [14]) (by kernel_rfl) (by simp) ?_
        refine (AllReadyH.cons rfl (fun K hK => ?_) AllReadyH.nil)
        refine step_append_ex (by rfl) _ _ 76 (by rfl) (.slice va k vc) _ (by rfl) (by rfl) HAp.out ?_
        rintro v5 w5 ⟨⟨a5, x5, rfl⟩, d0, d1, d2, h5⟩
        refine hK.out _ _ d2 (fun hS => ?_)
        clear hK K
        try simp only [Act.put, List.setIfInBounds_toArray]
        refine wpAnyH_take (i := 15) (v := ?_) rfl (by kernel_rfl) (by kernel_rfl) (by kernel_rfl) (fun _ _ _ h => h) (Or.inl ⟨by rfl, ?_⟩) hS ?_
        rotate_left
        · (intro w hSw; (try dsimp only at hSw); go_simp; try (with_reducible rfl))
        try simp only [Act.put]
        refine wpAnyH_take (i := 16) (v := ?_) rfl (by kernel_rfl) (by kernel_rfl) (by kernel_rfl) (fun _ _ _ h => h) (Or.inl ⟨by rfl, ?_⟩) hS ?_
        rotate_left
        · (intro w hSw; (try dsimp only at hSw); go_simp; try (with_reducible rfl))
        try simp only [Act.put]
        refine wpAnyH_ready (rs := [17]) (by kernel_rfl) (by simp) ?_
        refine (AllReadyH.cons rfl (fun K hK => ?_) AllReadyH.nil)
        go_simp
        refine hK.out _ _ ((Fr.of_set _ _ _).cell hS (by simpa using hbR)) (fun hS => ?_)
        clear hK K
        try simp only [Act.put, List.setIfInBounds_toArray, List.set_cons_zero, List.set_cons_succ]
        refine wpAnyH_done (by kernel_rfl) ?_ _
        obtain ⟨L5, h5⟩ := h5
        clear d0 d1 d2 hS HAp
        go_wp2
        go_roundw
        case rel => exact ⟨k + 1, _, L5, by omega, by go_num, h5⟩
        case measure => simp [intOf]; omega
      · go_simp
        refine hK.out _ _ (cell_on (((Below.refl _ w2).drew).alloc (Nat.le_refl _) _) p1) (fun hS => ?_)
        clear hK K
        try simp only [Act.put, List.setIfInBounds_toArray, List.set_cons_zero, List.set_cons_succ]
        refine wpAnyH_ready (rs := [4]) (by kernel_rfl) (by simp) ?_
        refine (AllReadyH.cons rfl (fun K hK => ?_) AllReadyH.nil)
        go_simp
        refine hK.out _ _ hS (fun hS => ?_)
        clear hK K
        try simp only [Act.put, List.setIfInBounds_toArray, List.set_cons_zero, List.set_cons_succ]
        refine wpAnyH_ready (rs := [14]) (by kernel_rfl) (by simp) ?_
        refine (AllReadyH.cons rfl (fun K hK => ?_) AllReadyH.nil)
        refine step_append_ex (by rfl) _ _ 76 (by rfl) (.slice va k vc) _ (by rfl) (by rfl) HAp.out ?_
        rintro v5 w5 ⟨⟨a5, x5, rfl⟩, d0, d1, d2, h5⟩
        refine hK.out _ _ d2 (fun hS => ?_)
        clear hK K
        try simp only [Act.put, List.setIfInBounds_toArray]
        refine wpAnyH_take (i := 15) (v := ?_) rfl (by kernel_rfl) (by kernel_rfl) (by kernel_rfl) (fun _ _ _ h => h) (Or.inl ⟨by rfl, ?_⟩) hS ?_
        rotate_left
        · (intro w hSw; (try dsimp only at hSw); go_simp; try (with_reducible rfl))
        try simp only [Act.put]
        refine wpAnyH_take (i := 16) (v := ?_) rfl (by kernel_rfl) (by kernel_rfl) (by kernel_rfl) (fun _ _ _ h => h) (Or.inl ⟨by rfl, ?_⟩) hS ?_
        rotate_left
        · (intro w hSw; (try dsimp only at hSw); go_simp; try (with_reducible rfl))
        try simp only [Act.put]
        refine wpAnyH_ready (rs := [17]) (by kernel_rfl) (by simp) ?_
        refine (AllReadyH.cons rfl (fun K hK => ?_) AllReadyH.nil)
        go_simp
        refine hK.out _ _ ((Fr.of_set _ _ _).cell hS (by simpa using hbR)) (fun hS => ?_)
        clear hK K
        try simp only [Act.put, List.setIfInBounds_toArray, List.set_cons_zero, List.set_cons_succ]
        refine wpAnyH_done (by kernel_rfl) ?_ _
        obtain ⟨L5, h5⟩ := h5
        clear d0 d1 d2 hS HAp
        go_wp2
        go_roundw
        case rel => exact ⟨k + 1, _, L5, by omega, by go_num, h5⟩
        case measure => simp [intOf]; omega
    · have e : k = G.length := by omega
      have HE : Hid (RnI w R tv2 G T G.length v L wr) := by rw [← e]; exact HI.out
      clear HI hI hfc e
      go_wp2
      go_ret
      exact ⟨R, v, tv2, L, rfl, HE.out⟩
end Go.Proofs.Ythkjjebghfcgkaa
