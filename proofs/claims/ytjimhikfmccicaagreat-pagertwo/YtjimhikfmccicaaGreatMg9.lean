/-
  The contract of Write where the name is new and behind all others.
  A file put ahead of others; the contracts of Write of a new name ahead of others, and of Write on a full disk.
  The contracts of the looks in the dark.
-/
import Derived.Test.YtjimhikfmccicaaGreatWn
import Derived.Test.YtjimhikfmccicaaGreatMg8
import Derived.Test.YtjimhikfmccicaaGreatMg5
namespace Go.Proofs.YtjimhikfmccicaaGreat
open Go.RowKit Go.Maps

set_option maxRecDepth 100000 in
set_option maxHeartbeats 1000000 in
theorem write_new_do {w : World} {D mb : Nat} {v : Value} {L : List FR} {f : Int → Int} {s : Int} (h : Dk w D mb v L f s false) (hs : 0 ≤ s ∧ s ≤ 1000000) (hk : f (s + 1) = 0) (hr : M.rise (names L)) (t : ByteArray) (htn : M.nam t = true) (ht : M.has (names L) t = false) (hpos : M.pos (names L) t = L.length) (h16 : L.length < 16)
    (p : Nat) (ba : Option Addr) (bc : Nat) (b : List Nat) (hb : Sees w (.slice ba b.length bc) b) (hbf : ∀ a, ba = some a → a.block ∉ foot D mb v L) (hb1 : 1 ≤ b.length) (hp : p + b.length ≤ 4194304) :
    Calls Tryz.prog 116 #[.pointer (some ⟨D, 0, none⟩), .string t, .int .i64 p, .slice ba b.length bc] w fun e w' => e = .returned (.int .i64 0) ∧
      ∃ v' nv', Moved w D mb v L f (s + 1) false v' (L ++ [(t, .slice none 0 0, nv', [], M.put [] p b)]) w' := by
  have hmf := mk_func
  have HN := Hid.mk' (name_any t)
  rw [htn] at HN
  have HL := Hid.mk' (length_any (p : Int))
  rw [show decide (0 ≤ (p : Int) ∧ (p : Int) ≤ 4194304) = true by rw [decide_eq_true_iff]; omega] at HL
  have HD := Hid.mk' h
  have t0 : ((b.length : Int) == 0) = false := by rw [beq_eq_false_iff_ne]; omega
  have t1 : decide ((4194304 : Int) - (p : Int) < (b.length : Int)) = false := by rw [decide_eq_false_iff_not]; omega
  have HW : Hid (∀ w1, Below w.heap.size w w1 → ∀ q0 q1 q2 q3, w1.cell? ⟨q0, 0, none⟩ = some (.pointer (some ⟨D, 0, none⟩)) → w1.cell? ⟨q1, 0, none⟩ = some (.string t) → w1.cell? ⟨q2, 0, none⟩ = some (.int .i64 p) → w1.cell? ⟨q3, 0, none⟩ = some (.slice ba b.length bc) → w.heap.size ≤ q0 → w.heap.size ≤ q1 → w.heap.size ≤ q2 → w.heap.size ≤ q3 →
      ∀ q, Calls Tryz.prog 130 #[.pointer (some ⟨q0, 0, none⟩), .pointer (some ⟨q1, 0, none⟩), .pointer (some ⟨q2, 0, none⟩), .pointer (some ⟨q3, 0, none⟩)] ((w1.setCell ⟨D, 2, none⟩ (.int .i64 (s + 1))).drewN q) fun e w' => ∃ r, e = .returned (.int .i64 r) ∧ (r = 0 ∧ ∃ v' nv', Moved w D mb v L f (s + 1) false v' (L ++ [(t, .slice none 0 0, nv', [], M.put [] p b)]) w')) := by
    show ∀ w1, _
    intro w1 hw1 q0 q1 q2 q3 c0 c1 c2 c3 g0 g1 g2 g3 q
    obtain ⟨hD2, hF2⟩ := (h.on hw1).lit (s + 1) q
    have hDl := h.lt D h.mem.1
    have hnf : ∀ k, w.heap.size ≤ k → k ∉ foot D mb v L := fun k hk hm => by have := h.lt k hm; omega
    have hFw := (Fr.of_below (fs := foot D mb v L) hw1).trans hF2 (fun k hk => .inl (by simp at hk; subst hk; exact h.mem.1))
    have hne : ∀ k, w.heap.size ≤ k → k ∉ [D] := fun k hk hm => by simp at hm; omega
    have hsb := hFw.sees hb (fun a n c e => hbf a (by simpa using (by simpa using e : _ ∧ _ ∧ _).1))
    refine (write1_new hD2 hr t ht hpos h16 p ba bc b hsb hbf hb1 hp (hF2.cell c0 (hne _ g0)) (hF2.cell c1 (hne _ g1)) (hF2.cell c2 (hne _ g2)) (hF2.cell c3 (hne _ g3)) ⟨hnf _ g0, hnf _ g2, hnf _ g3⟩ (hnf _ g1)).mono ?_
    rintro e w' ⟨r, rfl, hr0, v', nv', hT⟩
    exact ⟨r, rfl, hr0, v', nv', hT.since hFw⟩
  have HK := Hid.mk' hk
  clear h htn hb hbf ht hr hk hpos h16
  go_enter Tryz.func116, Tryz.ntmps116
  go_wp2_with fail
  refine (HN.out _).mono ?_
  rintro e w1 ⟨rfl, hb1'⟩
  have q1 := cell_on hb1' (a := ⟨w.heap.size, 0, none⟩) (cells4 w (.pointer (some ⟨D, 0, none⟩)) (.string t) (.int .i64 p) (.slice ba b.length bc) _ _ _ _).1
  have q2 := cell_on hb1' (a := ⟨w.heap.size + 1, 0, none⟩) (cells4 w (.pointer (some ⟨D, 0, none⟩)) (.string t) (.int .i64 p) (.slice ba b.length bc) _ _ _ _).2.1
  have q3 := cell_on hb1' (a := ⟨w.heap.size + 2, 0, none⟩) (cells4 w (.pointer (some ⟨D, 0, none⟩)) (.string t) (.int .i64 p) (.slice ba b.length bc) _ _ _ _).2.2.1
  have q4 := cell_on hb1' (a := ⟨w.heap.size + 3, 0, none⟩) (cells4 w (.pointer (some ⟨D, 0, none⟩)) (.string t) (.int .i64 p) (.slice ba b.length bc) _ _ _ _).2.2.2
  replace hb1' : Below w.heap.size w w1 := (((((Below.refl _ _).alloc (Nat.le_refl _) _).alloc (by simp) _).alloc (by simp; omega) _).alloc (by simp; omega) _).trans (hb1'.mono (by simp; omega))
  have HB := Hid.mk' hb1'
  have HC := Hid.mk' (HW.out w1 hb1' _ _ _ _ q1 q2 q3 q4 (by omega) (by omega) (by omega) (by omega))
  clear hb1' HW
  go_wp2_with fail
  refine (HL.out _).mono ?_
  rintro e w2 ⟨rfl, hw2⟩
  obtain rfl := hw2.symm
  clear hw2
  go_wp2_with fail
  refine (stroke_write1_do (HD.out.on HB.out) hs _ _ _ _ HK.out HC.out).mono ?_
  rintro e w' ⟨r, rfl, rfl, hT⟩
  have HT := Hid.mk' hT
  clear hT
  go_wp2
  go_ret
  exact ⟨rfl, HT.out⟩


theorem own_of {g n c k : Nat} (h : (Value.slice (some ⟨g, 0, none⟩) n c).ownBlock = some k) : g = k := by simpa [Value.ownBlock] using h
theorem mid_getD (L : List FR) {i : Nat} (hi : i < L.length) (x : FR) : (L.take i ++ x :: L.drop i).getD i z0 = x := by
  have hl : (L.take i).length = i := by simp; omega
  rw [List.getD_eq_getElem?_getD, List.getElem?_append_right (by omega), hl]
  simp
theorem mid_set (L : List FR) {i : Nat} (hi : i < L.length) (x y : FR) : (L.take i ++ x :: L.drop i).set i y = L.take i ++ y :: L.drop i := by
  have hl : (L.take i).length = i := by simp; omega
  rw [List.set_append_right _ _ (by omega), hl]
  simp
theorem feet_mid (L : List FR) (i : Nat) (t : ByteArray) : feet (L.take i ++ fresh0 t :: L.drop i) = feet L := by
  rw [feet_append]
  have e : feet (fresh0 t :: L.drop i) = feet (L.drop i) := rfl
  rw [e, ← feet_append, List.take_append_drop]
theorem mem_mid {L : List FR} {i : Nat} {t : ByteArray} {x : FR} (h : x ∈ L.take i ++ fresh0 t :: L.drop i) : x ∈ L ∨ (x.sv = .slice none 0 0 ∧ x.nv = .slice none 0 0 ∧ x.safe = [] ∧ x.seen = []) := by
  rcases List.mem_append.1 h with h | h
  · exact .inl (List.mem_of_mem_take h)
  · rcases List.mem_cons.1 h with rfl | h
    · exact .inr ⟨rfl, rfl, rfl, rfl⟩
    · exact .inl (List.mem_of_mem_drop h)

theorem insert_mid {w w1 : World} {D mb : Nat} {a : Option Addr} {c : Nat} {L : List FR} {f : Int → Int} {s : Int} {off : Bool} (h : Dk w D mb (.slice a L.length c) L f s off) {i : Nat} (hi : i < L.length) (h16 : L.length < 16) (t : ByteArray) (bb1 : Below w.heap.size w w1) {q : Nat} (hq : q = w1.heap.size) :
    Calls Tryz.prog 131 #[.slice a L.length c, .int .i64 i, .slice (some ⟨q, 0, none⟩) 1 1] (w1.alloc (.cells #[.string t, .slice none 0 0, .slice none 0 0] 83)) fun e w2 => ∃ v', e = .returned v' ∧ (∃ a c, v' = .slice a (L.length + 1) c) ∧
      w2.cell? ⟨D, 0, none⟩ = some (.slice a L.length c) ∧ w2.frozen? ⟨D, 0, none⟩ = false ∧ Moved w D mb (.slice a L.length c) L f s off v' (L.take i ++ fresh0 t :: L.drop i) (w2.setCell ⟨D, 0, none⟩ v') ∧ (∀ a' u, w.cell? a' = some u → (Value.slice a L.length c).ownBlock ≠ some a'.block → w2.cell? a' = some u) := by
  subst hq
  have hW : Below w.heap.size w (w1.alloc (.cells #[.string t, .slice none 0 0, .slice none 0 0] 83)) := bb1.alloc bb1.size _
  have hz := bb1.size
  have hqh := heap_alloc_new w1 (.cells #[.string t, .slice none 0 0, .slice none 0 0] 83)
  obtain ⟨a', c', e, hc, hcm, hrow⟩ := owns_files h.2.1.1
  obtain ⟨g, hg, _⟩ := hrow (by omega)
  obtain ⟨rfl, rfl⟩ : a = a' ∧ c = c' := by simpa using e
  subst hg
  have hgl : g < w.heap.size := h.lt g (by simp [foot, Value.ownBlock])
  have h1 : ∀ x ∈ L, x.sv.oneCell' = true ∧ x.nv.oneCell' = true := fun x hx => ⟨oneCell_rw (h.2.2.1 x hx).1, oneCell_rw (h.2.2.1 x hx).2⟩
  have ho := (h.on hW).2.1.1
  obtain ⟨m, hm⟩ : ∃ m, L.length = i + m := ⟨L.length - i, by omega⟩
  have hll : (L.take i ++ fresh0 t :: L.drop i).length = i + m + 1 := by simp; omega
  rw [hm] at ho hc ⊢
  rw [hm] at h
  have hft : (feet (L.take i ++ fresh0 t :: L.drop i)).Sublist (feet L) := by rw [feet_mid]; exact List.Sublist.refl _
  by_cases hroom : i + m + 1 ≤ c
  · refine (insert_room L g c i m w1.heap.size t _ hm (by omega) (by omega) hroom hcm ho h1 hqh (by omega)).mono ?_
    rintro e w2 ⟨rfl, ho2, hg2⟩
    have hF : Fr [g] w w2 := (Fr.of_below (fs := [g]) hW).trans (Fr.of_grown hg2) (fun k hk => .inl (by simpa using hk))
    obtain ⟨k1, k2, k3⟩ := h.relay (v' := .slice (some ⟨g, 0, none⟩) (i + m + 1) c) (L' := L.take i ++ fresh0 t :: L.drop i) hF (fun k hk => .inl (by simp at hk; simp [Value.ownBlock, hk])) (by rw [hll]; exact ho2) (by rw [hll]; omega) (fun k hk => .inl hk) (fun x hx => mem_mid hx) hft
    exact ⟨_, rfl, ⟨_, _, rfl⟩, k1, k2, k3, fun a' u hu hne => hF.cell hu (fun hm => hne (by simp at hm; simp [Value.ownBlock, hm]))⟩
  · refine (insert_grow L g c i m w1.heap.size t _ hm (by omega) (by omega) (by omega) ho h1 hqh (by omega)).mono ?_
    rintro e w2 ⟨c1, rfl, ho2, hb2⟩
    have hF : Fr [] w w2 := (Fr.of_below (fs := []) hW).trans (Fr.of_below (fs := []) hb2) (by simp)
    obtain ⟨k1, k2, k3⟩ := h.relay (v' := .slice (some ⟨(w1.alloc (.cells #[.string t, .slice none 0 0, .slice none 0 0] 83)).heap.size, 0, none⟩) (i + m + 1) c1) (L' := L.take i ++ fresh0 t :: L.drop i) hF (by simp) (by rw [hll]; exact ho2) (by rw [hll]; omega) (fun k hk => .inr (by have := own_of hk; rw [World.size_alloc] at this; omega)) (fun x hx => mem_mid hx) hft
    exact ⟨_, rfl, ⟨_, _, rfl⟩, k1, k2, k3, fun a' u hu _ => hF.cell hu (by simp)⟩

set_option maxRecDepth 100000 in
set_option maxHeartbeats 4000000 in
theorem write1_mid {w : World} {D mb : Nat} {v : Value} {L : List FR} {f : Int → Int} {s : Int} {off : Bool} (h : Dk w D mb v L f s off) (hr : M.rise (names L)) (t : ByteArray) (ht : M.has (names L) t = false) {i : Nat} (hpos : M.pos (names L) t = i) (hi : i < L.length) (h16 : L.length < 16)
    (p : Nat) (ba : Option Addr) (bc : Nat) (b : List Nat) (hb : Sees w (.slice ba b.length bc) b) (hbf : ∀ a, ba = some a → a.block ∉ foot D mb v L) (hb1 : 1 ≤ b.length) (hp : p + b.length ≤ 4194304)
    {q0 q1 q2 q3 : Nat} (c0 : w.cell? ⟨q0, 0, none⟩ = some (.pointer (some ⟨D, 0, none⟩))) (c1 : w.cell? ⟨q1, 0, none⟩ = some (.string t)) (c2 : w.cell? ⟨q2, 0, none⟩ = some (.int .i64 p)) (c3 : w.cell? ⟨q3, 0, none⟩ = some (.slice ba b.length bc))
    (hq : q0 ∉ foot D mb v L ∧ q2 ∉ foot D mb v L ∧ q3 ∉ foot D mb v L) (hq1 : q1 ∉ foot D mb v L) :
    Calls Tryz.prog 130 #[.pointer (some ⟨q0, 0, none⟩), .pointer (some ⟨q1, 0, none⟩), .pointer (some ⟨q2, 0, none⟩), .pointer (some ⟨q3, 0, none⟩)] w fun e w' => ∃ r, e = .returned (.int .i64 r) ∧ r = 0 ∧
      ∃ v' nv', Moved w D mb v L f s off v' (L.take i ++ (t, .slice none 0 0, nv', [], M.put [] p b) :: L.drop i) w' := by
  have HFi := Hid.mk' (find_any h hr t)
  rw [ht, hpos] at HFi
  obtain ⟨a, c, rfl, hc, hcm, _⟩ := owns_files h.2.1.1
  have h16' : ((L.length : Int) == 16) = false := by rw [beq_eq_false_iff_ne]; omega
  have HD := Hid.mk' h
  have HQ := Hid.mk' hq
  have HQ1' := Hid.mk' hq1
  have HB := Hid.mk' hb
  have HBf := Hid.mk' hbf
  have HQl : Hid ((q0 < w.heap.size ∧ q2 < w.heap.size ∧ q3 < w.heap.size) ∧ ∀ ad, ba = some ad → ad.block < w.heap.size) := by
    refine ⟨⟨World.block_lt_of_cell? _ _ c0, World.block_lt_of_cell? _ _ c2, World.block_lt_of_cell? _ _ c3⟩, fun ad e => ?_⟩
    obtain ⟨⟨a', c', he, hbb⟩, _⟩ := hb
    obtain ⟨b0, o0, e2, hcc⟩ := hbb hb1
    have : ba = a' := by simpa using (by simpa using he : ba = a' ∧ _).1
    rw [this, e2] at e
    obtain rfl := by simpa using e
    exact World.block_lt_of_cell? _ _ (hcc 0 (by omega))
  clear h hq hq1 hb hbf ht hpos
  go_enter Tryz.func130, Tryz.ntmps130
  go_wp2_with fail
  refine HFi.out.mono ?_
  rintro e w1 ⟨rfl, hb1'⟩
  replace c0 := cell_on hb1' c0
  replace c1 := cell_on hb1' c1
  replace c2 := cell_on hb1' c2
  replace c3 := cell_on hb1' c3
  have hz1 := hb1'.size
  have HD1 := Hid.mk' (HD.out.on hb1')
  have d0 := HD1.out.cells.1
  have HB1 := Hid.mk' (HB.out.below hb1')
  have HBw := Hid.mk' hb1'
  have HQn : Hid (∀ F : List Nat, (∀ k ∈ F, k ∈ foot D mb (.slice a L.length c) L ∨ w1.heap.size ≤ k) → q0 ∉ F ∧ q2 ∉ F ∧ q3 ∉ F) := by
    show ∀ F, _
    intro F hF
    obtain ⟨⟨l0, l2, l3⟩, _⟩ := HQl.out
    obtain ⟨m0, m2, m3⟩ := HQ.out
    exact ⟨fun hm => (hF _ hm).elim m0 (fun _ => by omega), fun hm => (hF _ hm).elim m2 (fun _ => by omega), fun hm => (hF _ hm).elim m3 (fun _ => by omega)⟩
  have HBm : Hid (∀ F : List Nat, (∀ k ∈ F, k ∈ foot D mb (.slice a L.length c) L ∨ w1.heap.size ≤ k) → ∀ ad, ba = some ad → ad.block ∉ F) := by
    show ∀ F, _
    intro F hF ad e hm
    have := HQl.out.2 ad e
    rcases hF _ hm with h1 | h1
    · exact HBf.out ad e h1
    · omega
  have HVb : Hid ((Value.slice a L.length c).ownBlock ≠ some q0 ∧ (Value.slice a L.length c).ownBlock ≠ some q1) :=
    ⟨fun e => HQ.out.1 (by simp [foot, e]), fun e => HQ1'.out (by simp [foot, e])⟩
  have HQD : Hid (q0 ≠ D ∧ q1 ≠ D) := ⟨fun e => HQ.out.1 (by simp [foot, e]), fun e => HQ1'.out (by simp [foot, e])⟩
  have HPu := Hid.mk' (insert_mid HD1.out hi h16 t (bb1 := (Below.refl _ _).drew) rfl)
  clear HFi HB hb1'
  go_upto_region 5 with fail
  have bb : Below w1.heap.size w1 w1.drew := (Below.refl _ _).drew
  have hS := Hid.mk' (show (fun w' : World => w'.cell? ⟨q0, 0, none⟩ = some (.pointer (some ⟨D, 0, none⟩)) ∧ w'.cell? ⟨q1, 0, none⟩ = some (.string t)) w1.drew from ⟨c0, c1⟩)
  refine wp_region_held_drew (S := (fun w' : World => w'.cell? ⟨q0, 0, none⟩ = some (.pointer (some ⟨D, 0, none⟩)) ∧ w'.cell? ⟨q1, 0, none⟩ = some (.string t))) (by kernel_rfl) (hS.out) (fun hS => ?_)
  refine wpAnyH_take (i := 0) (v := ?_) rfl (by kernel_rfl) (by kernel_rfl) (by kernel_rfl) (fun _ _ _ h => h) (Or.inl ⟨by rfl, ?_⟩) hS ?_
  rotate_left
  · (intro w hSw; (try dsimp only at hSw); go_simp; try (with_reducible rfl))
  try simp only [Act.put, List.setIfInBounds_toArray]
  refine wpAnyH_take (i := 1) (v := ?_) rfl (by kernel_rfl) (by kernel_rfl) (by kernel_rfl) (fun _ _ _ h => h) (Or.inl ⟨by rfl, ?_⟩) hS ?_
  rotate_left
  · (intro w hSw; (try dsimp only at hSw); go_simp; try (with_reducible rfl))
  try simp only [Act.put]
  refine wpAnyH_take (i := 2) (v := ?_) rfl (by kernel_rfl) (by kernel_rfl) (by kernel_rfl) (fun _ _ _ h => h) (Or.inl ⟨by rfl, ?_⟩) hS ?_
  rotate_left
  · (intro w hSw; (try dsimp only at hSw); go_simp; try (with_reducible rfl))
  try simp only [Act.put]
  refine wpAnyH_take (i := 3) (v := ?_) rfl (by kernel_rfl) (by kernel_rfl) (by kernel_rfl) (fun _ _ _ h => h) (Or.inl ⟨by rfl, ?_⟩) hS ?_
  rotate_left
  · (intro w hSw; (try dsimp only at hSw); go_simp; try (with_reducible rfl))
  try simp only [Act.put]
  refine wpAnyH_take (i := 5) (v := ?_) rfl (by kernel_rfl) (by kernel_rfl) (by kernel_rfl) (fun _ _ _ h => h) (Or.inl ⟨by rfl, ?_⟩) hS ?_
  rotate_left
  · (intro w hSw; (try dsimp only at hSw); go_simp; try (with_reducible rfl))
  try simp only [Act.put]
  refine wpAnyH_take (i := 6) (v := ?_) rfl (by kernel_rfl) (by kernel_rfl) (by kernel_rfl) (fun _ _ _ h => h) (Or.inl ⟨by rfl, ?_⟩) hS ?_
  rotate_left
  · (intro w hSw; (try dsimp only at hSw); go_simp; try (with_reducible rfl))
  try simp only [Act.put]
  refine wpAnyH_take (i := 7) (v := ?_) rfl (by kernel_rfl) (by kernel_rfl) (by kernel_rfl) (fun _ _ _ h => h) (Or.inl ⟨by rfl, ?_⟩) hS ?_
  rotate_left
  · (intro w hSw; (try dsimp only at hSw); go_simp; try (with_reducible rfl))
  try simp only [Act.put]
  refine wpAnyH_ready (rs := [4, 8]) (by kernel_rfl) (by simp) ?_
  refine (AllReadyH.cons rfl (fun K hK => ?_) (AllReadyH.cons rfl (fun K hK => ?_) AllReadyH.nil))
  · go_simp
    refine hK.out _ _ hS (fun hS => ?_)
    clear hK K
    try simp only [Act.put, List.setIfInBounds_toArray, List.set_cons_zero, List.set_cons_succ]
    refine wpAnyH_ready (rs := [8]) (by kernel_rfl) (by simp) ?_
    refine (AllReadyH.cons rfl (fun K hK => ?_) AllReadyH.nil)
    go_simp
    have zz := cell_on ((Below.refl w1.heap.size w1).alloc (Nat.le_refl _) (.cells #[.string t, .slice none 0 0, .slice none 0 0] 83)) d0
    refine hK.out _ _ ⟨cell_on (bb.alloc bb.size _) c0, cell_on (bb.alloc bb.size _) c1⟩ (fun hS => ?_)
    clear hK K
    try simp only [Act.put, List.setIfInBounds_toArray, List.set_cons_zero, List.set_cons_succ]
    refine wpAnyH_ready (rs := [9]) (by kernel_rfl) (by simp) ?_
    refine (AllReadyH.cons rfl (fun K hK => ?_) AllReadyH.nil)
    go_simp
    go_wp2_with (go_at_call 131; refine HPu.out.mono ?_; rintro e' w5 ⟨v', rfl, ⟨a5, x5, rfl⟩, e0, e1, hM, hKp⟩)
    refine hK.out _ _ ⟨hKp _ _ c0 HVb.out.1, hKp _ _ c1 HVb.out.2⟩ (fun hS => ?_)
    clear hK K
    try simp only [Act.put, List.setIfInBounds_toArray, List.set_cons_zero, List.set_cons_succ]
    refine wpAnyH_take (i := 10) (v := ?_) rfl (by kernel_rfl) (by kernel_rfl) (by kernel_rfl) (fun _ _ _ h => h) (Or.inl ⟨by rfl, ?_⟩) hS ?_
    rotate_left
    · (intro w hSw; (try dsimp only at hSw); go_simp; try (with_reducible rfl))
    try simp only [Act.put, List.setIfInBounds_toArray]
    refine wpAnyH_take (i := 11) (v := ?_) rfl (by kernel_rfl) (by kernel_rfl) (by kernel_rfl) (fun _ _ _ h => h) (Or.inl ⟨by rfl, ?_⟩) hS ?_
    rotate_left
    · (intro w hSw; (try dsimp only at hSw); go_simp; try (with_reducible rfl))
    try simp only [Act.put]
    refine wpAnyH_ready (rs := [12]) (by kernel_rfl) (by simp) ?_
    refine (AllReadyH.cons rfl (fun K hK => ?_) AllReadyH.nil)
    go_simp
    refine hK.out _ _ ⟨(Fr.of_set _ _ _).cell hS.1 (by simpa using HQD.out.1), (Fr.of_set _ _ _).cell hS.2 (by simpa using HQD.out.2)⟩ (fun hS => ?_)
    clear hK K
    try simp only [Act.put, List.setIfInBounds_toArray, List.set_cons_zero, List.set_cons_succ]
    refine wpAnyH_done (by kernel_rfl) ?_ _
    have HM := Hid.mk' (hM.since (Fr.of_below (fs := foot D mb (.slice a L.length c) L) HBw.out))
    have HQ1 : Hid (q0 ∉ foot D mb (.slice a5 (L.length + 1) x5) (L.take i ++ fresh0 t :: L.drop i) ∧ q2 ∉ foot D mb (.slice a5 (L.length + 1) x5) (L.take i ++ fresh0 t :: L.drop i) ∧ q3 ∉ foot D mb (.slice a5 (L.length + 1) x5) (L.take i ++ fresh0 t :: L.drop i)) := HQn.out _ hM.2.2
    have HBn : Hid (∀ ad, ba = some ad → ad.block ∉ foot D mb (.slice a5 (L.length + 1) x5) (L.take i ++ fresh0 t :: L.drop i)) := HBm.out _ hM.2.2
    have k0 := hM.2.1.cell c0 HQ.out.1
    have k2 := hM.2.1.cell c2 HQ.out.2.1
    have k3 := hM.2.1.cell c3 HQ.out.2.2
    have HSb := Hid.mk' (hM.2.1.sees HB1.out (fun ad n c' e => HBf.out ad (by simpa using (by simpa using e : _ ∧ _ ∧ _).1)))
    have kD := hM.1.cells.1
    have HDn := Hid.mk' hM.1
    generalize hW6 : w5.setCell ⟨D, 0, none⟩ (.slice a5 (L.length + 1) x5) = w6 at *
    clear hW6 hM hKp e0 e1 hS bb d0 c0 c1 c2 c3 zz
    obtain ⟨a6, c6, he6, _, _, hrow6⟩ := owns_files HDn.out.2.1.1
    obtain ⟨g, hg6, _⟩ := hrow6 (by simp; omega)
    obtain rfl : a5 = a6 := by simpa using (by simpa using he6 : a5 = a6 ∧ _).1
    obtain rfl := hg6
    clear hrow6 he6
    have HI6 : Hid (i < (L.take i ++ fresh0 t :: L.drop i).length) := by show _ < _; simp; omega
    generalize hN : L.length + 1 = N at *
    have hlN : i < N := by omega
    have HFw := Hid.mk' (fwrite_any (c := x5) (g := g) (HDn.out.on (Below.refl _ _).drew) HI6.out (by simp [← hN]; omega) p (.slice ba b.length bc) b (HSb.out.drew) (fun ad n c' e => HBn.out ad (by simpa using (by simpa using e : _ ∧ _ ∧ _).1)) hb1 hp)
    go_upto_region 6 with fail
    have hS := Hid.mk' (show (fun w' : World => w'.cell? ⟨q0, 0, none⟩ = some (.pointer (some ⟨D, 0, none⟩)) ∧ w'.cell? ⟨q2, 0, none⟩ = some (.int .i64 p) ∧ w'.cell? ⟨q3, 0, none⟩ = some (.slice ba b.length bc) ∧ w'.cell? ⟨D, 0, none⟩ = some (.slice (some ⟨g, 0, none⟩) N x5)) w6 from ⟨k0, k2, k3, kD⟩)
    go_region_held3 (fun w' : World => w'.cell? ⟨q0, 0, none⟩ = some (.pointer (some ⟨D, 0, none⟩)) ∧ w'.cell? ⟨q2, 0, none⟩ = some (.int .i64 p) ∧ w'.cell? ⟨q3, 0, none⟩ = some (.slice ba b.length bc) ∧ w'.cell? ⟨D, 0, none⟩ = some (.slice (some ⟨g, 0, none⟩) N x5)) (first | exact hS.out | assumption | go_keep) (first | (go_at_call 132; refine HFw.out.mono ?_; rintro e' w7 ⟨rfl, nv', hT⟩; have hS := Hid.mk' (show (fun w' : World => w'.cell? ⟨q0, 0, none⟩ = some (.pointer (some ⟨D, 0, none⟩)) ∧ w'.cell? ⟨q2, 0, none⟩ = some (.int .i64 p) ∧ w'.cell? ⟨q3, 0, none⟩ = some (.slice ba b.length bc) ∧ w'.cell? ⟨D, 0, none⟩ = some (.slice (some ⟨g, 0, none⟩) N x5)) w7 from ⟨hT.2.1.cell k0 HQ1.out.1, hT.2.1.cell k2 HQ1.out.2.1, hT.2.1.cell k3 HQ1.out.2.2, hT.1.cells.1⟩)))
    all_goals
      have HT := Hid.mk' (HM.out.step (hT.since (Below.refl _ _).drew))
      clear hT
      go_wp2
      go_ret
      refine ⟨_, rfl, rfl, .slice (some ⟨g, 0, none⟩) N x5, nv', ?_⟩
      have h9 := HT.out
      rw [mid_getD L hi, mid_set L hi] at h9
      exact h9
  · go_simp
    have zz := cell_on ((Below.refl w1.heap.size w1).alloc (Nat.le_refl _) (.cells #[.string t, .slice none 0 0, .slice none 0 0] 83)) d0
    refine hK.out _ _ ⟨cell_on (bb.alloc bb.size _) c0, cell_on (bb.alloc bb.size _) c1⟩ (fun hS => ?_)
    clear hK K
    try simp only [Act.put, List.setIfInBounds_toArray, List.set_cons_zero, List.set_cons_succ]
    refine wpAnyH_ready (rs := [4]) (by kernel_rfl) (by simp) ?_
    refine (AllReadyH.cons rfl (fun K hK => ?_) AllReadyH.nil)
    go_simp
    refine hK.out _ _ hS (fun hS => ?_)
    clear hK K
    try simp only [Act.put, List.setIfInBounds_toArray, List.set_cons_zero, List.set_cons_succ]
    refine wpAnyH_ready (rs := [9]) (by kernel_rfl) (by simp) ?_
    refine (AllReadyH.cons rfl (fun K hK => ?_) AllReadyH.nil)
    go_simp
    go_wp2_with (go_at_call 131; refine HPu.out.mono ?_; rintro e' w5 ⟨v', rfl, ⟨a5, x5, rfl⟩, e0, e1, hM, hKp⟩)
    refine hK.out _ _ ⟨hKp _ _ c0 HVb.out.1, hKp _ _ c1 HVb.out.2⟩ (fun hS => ?_)
    clear hK K
    try simp only [Act.put, List.setIfInBounds_toArray, List.set_cons_zero, List.set_cons_succ]
    refine wpAnyH_take (i := 10) (v := ?_) rfl (by kernel_rfl) (by kernel_rfl) (by kernel_rfl) (fun _ _ _ h => h) (Or.inl ⟨by rfl, ?_⟩) hS ?_
    rotate_left
    · (intro w hSw; (try dsimp only at hSw); go_simp; try (with_reducible rfl))
    try simp only [Act.put, List.setIfInBounds_toArray]
    refine wpAnyH_take (i := 11) (v := ?_) rfl (by kernel_rfl) (by kernel_rfl) (by kernel_rfl) (fun _ _ _ h => h) (Or.inl ⟨by rfl, ?_⟩) hS ?_
    rotate_left
    · (intro w hSw; (try dsimp only at hSw); go_simp; try (with_reducible rfl))
    try simp only [Act.put]
    refine wpAnyH_ready (rs := [12]) (by kernel_rfl) (by simp) ?_
    refine (AllReadyH.cons rfl (fun K hK => ?_) AllReadyH.nil)
    go_simp
    refine hK.out _ _ ⟨(Fr.of_set _ _ _).cell hS.1 (by simpa using HQD.out.1), (Fr.of_set _ _ _).cell hS.2 (by simpa using HQD.out.2)⟩ (fun hS => ?_)
    clear hK K
    try simp only [Act.put, List.setIfInBounds_toArray, List.set_cons_zero, List.set_cons_succ]
    refine wpAnyH_done (by kernel_rfl) ?_ _
    have HM := Hid.mk' (hM.since (Fr.of_below (fs := foot D mb (.slice a L.length c) L) HBw.out))
    have HQ1 : Hid (q0 ∉ foot D mb (.slice a5 (L.length + 1) x5) (L.take i ++ fresh0 t :: L.drop i) ∧ q2 ∉ foot D mb (.slice a5 (L.length + 1) x5) (L.take i ++ fresh0 t :: L.drop i) ∧ q3 ∉ foot D mb (.slice a5 (L.length + 1) x5) (L.take i ++ fresh0 t :: L.drop i)) := HQn.out _ hM.2.2
    have HBn : Hid (∀ ad, ba = some ad → ad.block ∉ foot D mb (.slice a5 (L.length + 1) x5) (L.take i ++ fresh0 t :: L.drop i)) := HBm.out _ hM.2.2
    have k0 := hM.2.1.cell c0 HQ.out.1
    have k2 := hM.2.1.cell c2 HQ.out.2.1
    have k3 := hM.2.1.cell c3 HQ.out.2.2
    have HSb := Hid.mk' (hM.2.1.sees HB1.out (fun ad n c' e => HBf.out ad (by simpa using (by simpa using e : _ ∧ _ ∧ _).1)))
    have kD := hM.1.cells.1
    have HDn := Hid.mk' hM.1
    generalize hW6 : w5.setCell ⟨D, 0, none⟩ (.slice a5 (L.length + 1) x5) = w6 at *
    clear hW6 hM hKp e0 e1 hS bb d0 c0 c1 c2 c3 zz
    obtain ⟨a6, c6, he6, _, _, hrow6⟩ := owns_files HDn.out.2.1.1
    obtain ⟨g, hg6, _⟩ := hrow6 (by simp; omega)
    obtain rfl : a5 = a6 := by simpa using (by simpa using he6 : a5 = a6 ∧ _).1
    obtain rfl := hg6
    clear hrow6 he6
    have HI6 : Hid (i < (L.take i ++ fresh0 t :: L.drop i).length) := by show _ < _; simp; omega
    generalize hN : L.length + 1 = N at *
    have hlN : i < N := by omega
    have HFw := Hid.mk' (fwrite_any (c := x5) (g := g) (HDn.out.on (Below.refl _ _).drew) HI6.out (by simp [← hN]; omega) p (.slice ba b.length bc) b (HSb.out.drew) (fun ad n c' e => HBn.out ad (by simpa using (by simpa using e : _ ∧ _ ∧ _).1)) hb1 hp)
    go_upto_region 6 with fail
    have hS := Hid.mk' (show (fun w' : World => w'.cell? ⟨q0, 0, none⟩ = some (.pointer (some ⟨D, 0, none⟩)) ∧ w'.cell? ⟨q2, 0, none⟩ = some (.int .i64 p) ∧ w'.cell? ⟨q3, 0, none⟩ = some (.slice ba b.length bc) ∧ w'.cell? ⟨D, 0, none⟩ = some (.slice (some ⟨g, 0, none⟩) N x5)) w6 from ⟨k0, k2, k3, kD⟩)
    go_region_held3 (fun w' : World => w'.cell? ⟨q0, 0, none⟩ = some (.pointer (some ⟨D, 0, none⟩)) ∧ w'.cell? ⟨q2, 0, none⟩ = some (.int .i64 p) ∧ w'.cell? ⟨q3, 0, none⟩ = some (.slice ba b.length bc) ∧ w'.cell? ⟨D, 0, none⟩ = some (.slice (some ⟨g, 0, none⟩) N x5)) (first | exact hS.out | assumption | go_keep) (first | (go_at_call 132; refine HFw.out.mono ?_; rintro e' w7 ⟨rfl, nv', hT⟩; have hS := Hid.mk' (show (fun w' : World => w'.cell? ⟨q0, 0, none⟩ = some (.pointer (some ⟨D, 0, none⟩)) ∧ w'.cell? ⟨q2, 0, none⟩ = some (.int .i64 p) ∧ w'.cell? ⟨q3, 0, none⟩ = some (.slice ba b.length bc) ∧ w'.cell? ⟨D, 0, none⟩ = some (.slice (some ⟨g, 0, none⟩) N x5)) w7 from ⟨hT.2.1.cell k0 HQ1.out.1, hT.2.1.cell k2 HQ1.out.2.1, hT.2.1.cell k3 HQ1.out.2.2, hT.1.cells.1⟩)))
    all_goals
      have HT := Hid.mk' (HM.out.step (hT.since (Below.refl _ _).drew))
      clear hT
      go_wp2
      go_ret
      refine ⟨_, rfl, rfl, .slice (some ⟨g, 0, none⟩) N x5, nv', ?_⟩
      have h9 := HT.out
      rw [mid_getD L hi, mid_set L hi] at h9
      exact h9
set_option maxRecDepth 100000 in
set_option maxHeartbeats 1000000 in
theorem write_mid_do {w : World} {D mb : Nat} {v : Value} {L : List FR} {f : Int → Int} {s : Int} (h : Dk w D mb v L f s false) (hs : 0 ≤ s ∧ s ≤ 1000000) (hk : f (s + 1) = 0) (hr : M.rise (names L)) (t : ByteArray) (htn : M.nam t = true) (ht : M.has (names L) t = false) {i : Nat} (hpos : M.pos (names L) t = i) (hi : i < L.length) (h16 : L.length < 16)
    (p : Nat) (ba : Option Addr) (bc : Nat) (b : List Nat) (hb : Sees w (.slice ba b.length bc) b) (hbf : ∀ a, ba = some a → a.block ∉ foot D mb v L) (hb1 : 1 ≤ b.length) (hp : p + b.length ≤ 4194304) :
    Calls Tryz.prog 116 #[.pointer (some ⟨D, 0, none⟩), .string t, .int .i64 p, .slice ba b.length bc] w fun e w' => e = .returned (.int .i64 0) ∧
      ∃ v' nv', Moved w D mb v L f (s + 1) false v' (L.take i ++ (t, .slice none 0 0, nv', [], M.put [] p b) :: L.drop i) w' := by
  have hmf := mk_func
  have HN := Hid.mk' (name_any t)
  rw [htn] at HN
  have HL := Hid.mk' (length_any (p : Int))
  rw [show decide (0 ≤ (p : Int) ∧ (p : Int) ≤ 4194304) = true by rw [decide_eq_true_iff]; omega] at HL
  have HD := Hid.mk' h
  have t0 : ((b.length : Int) == 0) = false := by rw [beq_eq_false_iff_ne]; omega
  have t1 : decide ((4194304 : Int) - (p : Int) < (b.length : Int)) = false := by rw [decide_eq_false_iff_not]; omega
  have HW : Hid (∀ w1, Below w.heap.size w w1 → ∀ q0 q1 q2 q3, w1.cell? ⟨q0, 0, none⟩ = some (.pointer (some ⟨D, 0, none⟩)) → w1.cell? ⟨q1, 0, none⟩ = some (.string t) → w1.cell? ⟨q2, 0, none⟩ = some (.int .i64 p) → w1.cell? ⟨q3, 0, none⟩ = some (.slice ba b.length bc) → w.heap.size ≤ q0 → w.heap.size ≤ q1 → w.heap.size ≤ q2 → w.heap.size ≤ q3 →
      ∀ q, Calls Tryz.prog 130 #[.pointer (some ⟨q0, 0, none⟩), .pointer (some ⟨q1, 0, none⟩), .pointer (some ⟨q2, 0, none⟩), .pointer (some ⟨q3, 0, none⟩)] ((w1.setCell ⟨D, 2, none⟩ (.int .i64 (s + 1))).drewN q) fun e w' => ∃ r, e = .returned (.int .i64 r) ∧ (r = 0 ∧ ∃ v' nv', Moved w D mb v L f (s + 1) false v' (L.take i ++ (t, .slice none 0 0, nv', [], M.put [] p b) :: L.drop i) w')) := by
    show ∀ w1, _
    intro w1 hw1 q0 q1 q2 q3 c0 c1 c2 c3 g0 g1 g2 g3 q
    obtain ⟨hD2, hF2⟩ := (h.on hw1).lit (s + 1) q
    have hDl := h.lt D h.mem.1
    have hnf : ∀ k, w.heap.size ≤ k → k ∉ foot D mb v L := fun k hk hm => by have := h.lt k hm; omega
    have hFw := (Fr.of_below (fs := foot D mb v L) hw1).trans hF2 (fun k hk => .inl (by simp at hk; subst hk; exact h.mem.1))
    have hne : ∀ k, w.heap.size ≤ k → k ∉ [D] := fun k hk hm => by simp at hm; omega
    have hsb := hFw.sees hb (fun a n c e => hbf a (by simpa using (by simpa using e : _ ∧ _ ∧ _).1))
    refine (write1_mid hD2 hr t ht hpos hi h16 p ba bc b hsb hbf hb1 hp (hF2.cell c0 (hne _ g0)) (hF2.cell c1 (hne _ g1)) (hF2.cell c2 (hne _ g2)) (hF2.cell c3 (hne _ g3)) ⟨hnf _ g0, hnf _ g2, hnf _ g3⟩ (hnf _ g1)).mono ?_
    rintro e w' ⟨r, rfl, hr0, v', nv', hT⟩
    exact ⟨r, rfl, hr0, v', nv', hT.since hFw⟩
  have HK := Hid.mk' hk
  clear h htn hb hbf ht hr hk hpos h16
  go_enter Tryz.func116, Tryz.ntmps116
  go_wp2_with fail
  refine (HN.out _).mono ?_
  rintro e w1 ⟨rfl, hb1'⟩
  have q1 := cell_on hb1' (a := ⟨w.heap.size, 0, none⟩) (cells4 w (.pointer (some ⟨D, 0, none⟩)) (.string t) (.int .i64 p) (.slice ba b.length bc) _ _ _ _).1
  have q2 := cell_on hb1' (a := ⟨w.heap.size + 1, 0, none⟩) (cells4 w (.pointer (some ⟨D, 0, none⟩)) (.string t) (.int .i64 p) (.slice ba b.length bc) _ _ _ _).2.1
  have q3 := cell_on hb1' (a := ⟨w.heap.size + 2, 0, none⟩) (cells4 w (.pointer (some ⟨D, 0, none⟩)) (.string t) (.int .i64 p) (.slice ba b.length bc) _ _ _ _).2.2.1
  have q4 := cell_on hb1' (a := ⟨w.heap.size + 3, 0, none⟩) (cells4 w (.pointer (some ⟨D, 0, none⟩)) (.string t) (.int .i64 p) (.slice ba b.length bc) _ _ _ _).2.2.2
  replace hb1' : Below w.heap.size w w1 := (((((Below.refl _ _).alloc (Nat.le_refl _) _).alloc (by simp) _).alloc (by simp; omega) _).alloc (by simp; omega) _).trans (hb1'.mono (by simp; omega))
  have HB := Hid.mk' hb1'
  have HC := Hid.mk' (HW.out w1 hb1' _ _ _ _ q1 q2 q3 q4 (by omega) (by omega) (by omega) (by omega))
  clear hb1' HW
  go_wp2_with fail
  refine (HL.out _).mono ?_
  rintro e w2 ⟨rfl, hw2⟩
  obtain rfl := hw2.symm
  clear hw2
  go_wp2_with fail
  refine (stroke_write1_do (HD.out.on HB.out) hs _ _ _ _ HK.out HC.out).mono ?_
  rintro e w' ⟨r, rfl, rfl, hT⟩
  have HT := Hid.mk' hT
  clear hT
  go_wp2
  go_ret
  exact ⟨rfl, HT.out⟩


set_option maxRecDepth 100000 in
set_option maxHeartbeats 400000 in
theorem look_dark {w : World} {D mb : Nat} {v : Value} {L : List FR} {f : Int → Int} {s : Int} (h : Dk w D mb v L f s true) (t : ByteArray) (ht : M.nam t = true) :
    Calls Tryz.prog 112 #[.pointer (some ⟨D, 0, none⟩), .string t] w fun e w' => e = .returned (.tuple #[.agg #[.string ⟨#[]⟩, .slice none 0 0, .slice none 0 0], .int .i64 9]) ∧ Below w.heap.size w w' := by
  have HN := Hid.mk' (name_any t)
  rw [ht] at HN
  obtain ⟨_, _, _, c3, _⟩ := h.cells
  clear h ht
  go_enter Tryz.func112, Tryz.ntmps112
  go_wp2_with fail
  refine (HN.out _).mono ?_
  rintro e w1 ⟨rfl, hb1⟩
  have q0 := cell_on hb1 (a := ⟨w.heap.size, 0, none⟩) (v := .string ⟨#[]⟩) (by simp)
  have q1 := cell_on hb1 (a := ⟨w.heap.size, 1, none⟩) (v := .slice none 0 0) (by simp)
  have q2 := cell_on hb1 (a := ⟨w.heap.size, 2, none⟩) (v := .slice none 0 0) (by simp)
  have hfz : ∀ j, w1.frozen? ⟨w.heap.size, j, none⟩ = false := fun j => by rw [hb1.frozen (p := ⟨w.heap.size, j, none⟩) (by simp)]; exact World.frozen?_alloc_at _ _ _ _ rfl
  have f0 := hfz 0
  have f1 := hfz 1
  have f2 := hfz 2
  replace hb1 : Below w.heap.size w w1 := ((Below.refl _ _).alloc (Nat.le_refl _) _).trans (hb1.mono (by simp))
  have c4 := cell_on hb1 c3
  have HB := Hid.mk' hb1
  clear hb1 hfz
  go_wp2
  refine bodyPost_ret ?_ rfl ⟨rfl, ?_⟩
  · simp [results, Tryz.results112, go_sem, q0, q1, q2]
  · refine Below.setCell (Below.setCell (Below.setCell HB.out ?_ _) ?_ _) ?_ _ <;> exact Nat.le_refl _

set_option maxRecDepth 100000 in
set_option maxHeartbeats 400000 in
theorem size_dark {w : World} {D mb : Nat} {v : Value} {L : List FR} {f : Int → Int} {s : Int} (h : Dk w D mb v L f s true) (t : ByteArray) (ht : M.nam t = true) :
    Calls Tryz.prog 91 #[.pointer (some ⟨D, 0, none⟩), .string t] w fun e w' => e = .returned (.tuple #[.int .i64 0, .int .i64 9]) ∧ Below w.heap.size w w' := by
  have HK := Hid.mk' (look_dark h t ht)
  clear h
  go_enter Tryz.func91, Tryz.ntmps91
  go_wp2_with fail
  refine HK.out.mono ?_
  rintro e w1 ⟨rfl, hb⟩
  have HB := Hid.mk' hb
  have hz := hb.size
  clear hb
  go_wp2
  go_ret2
  exact ⟨rfl, HB.out.alloc hz _⟩
end Go.Proofs.YtjimhikfmccicaaGreat
