/-
  The parser's lists of rows, sets, names, columns, keys.
-/
import Derived.Test.YtmepkmhfjgocgaaGreatDoorZp
namespace Go.Proofs.YtmepkmhfjgocgaaGreatDoor
open Go.ChangeShapes Go.WideShapes Go.ChangeAt Go.RowKit Go.Deep

theorem info_rows : (Tryz.prog.info? 26).map (fun i => (i.zero, i.size, i.bytes)) = some (some (.slice none 0 0), 1, 24) := by kernel_rfl
set_option maxRecDepth 100000 in
set_option maxHeartbeats 2000000 in
theorem list_rows {α : Type} {Sh : Shows α} (hSh : ShOk Sh 1) (hform : ∀ {w : World} {ok : Nat → Prop} {x : α} {cs : List Value}, Sh w ok x cs → ∃ a n c, cs = [.slice a n c]) {F : Nat} (hcf : ∀ (args : Array Value) (w : World), (callFunc F args).run Tryz.prog w = .ok (.enter F args) w) {f : List L.Tok → Int → Z.Rs α} {d : Int} {B : Nat} (HF : ReadsI Sh F f d [.slice none 0 0] B)
    {w : World} {p : Nat} {R : List L.Tok} {m : Int} (h : PS w p R d m) (hB : R.length ≤ B) (hR : R.length ≤ 500000) (hle : ∀ R m x R1 m1, f R m = some (x, R1, m1) → R1.length < R.length) {g o : Nat} {T0 : TypeId} {cur : List Value} (he : EL w g o T0 cur [.slice none 0 0]) :
    Calls Tryz.prog 70 #[.pointer (some ⟨p, 0, none⟩), .pointer (some ⟨g, o, none⟩), .func (.func F) #[.pointer (some ⟨p, 0, none⟩)] #[]] w (OutI (ShRow Sh 26 1) w p g o T0 cur d (Z.list f R m)) := by
  have HL := Hid.mk' (Lst.start (Sh := Sh) (T := 26) (sz := 1) h he (by omega))
  obtain ⟨r, hr⟩ : ∃ r, Z.list f R m = r := ⟨_, rfl⟩
  have HR0 : Hid (r = Z.listF f (R.length + 1) R m []) := hr.symm
  rw [hr]
  have hgw := he.lt
  have hpw := h.lt
  have hne := he.ne h
  clear h he hr
  go_enter Tryz.func70, Tryz.ntmps70
  go_wp2
  go_loopg [7] (R.length + 1) (fun c' _ wr => ∃ (R' : List L.Tok) (m' : Int) (l : List α) (v : Value), Hid (Lst Sh 26 1 w wr p R' d m' g o T0 cur l v) ∧ Hid (r = Z.listF f c' R' m' l) ∧ R'.length < c' ∧ R'.length ≤ R.length)
  case atStart => exact ⟨R, m, [], _, HL, HR0, by omega, Nat.le_refl _⟩
  case round =>
    clear HL HR0
    obtain ⟨R', m', l, v, HL, HR0, hc, hRR⟩ := hrel
    obtain ⟨c2, rfl⟩ : ∃ c2, gk = c2 + 1 := ⟨gk - 1, by omega⟩
    have h7 := HL.out.seven
    have hEx := Hid.mk' (EL.fresh wr 26 [.slice none 0 0] h7 (by decide) (by decide))
    have HI := Hid.mk' (HF ((HL.out.choose_spec.1.keep (Fr.of_alloc wr (.cells [.slice none 0 0].toArray 26))).1) (by omega) hEx.out)
    go_wp2_with fail
    refine (HI.out).mono ?_
    intro e w2 h2
    have hQ := Z.listF_step f c2 R' m' l
    obtain ⟨hf2, h2⟩ := h2
    cases hfr : f R' m' with
    | none =>
      rw [hfr] at h2 hQ
      obtain ⟨rfl, hpf⟩ := h2
      have HR := Hid.mk' (HR0.out.trans hQ)
      have HF2 := Hid.mk' (HL.out.frame hf2)
      have HPF := Hid.mk' hpf
      clear hf2 hpf hQ hfr HI
      go_wp2
      go_ret
      rw [HR.out]
      exact ⟨HF2.out, rfl, HPF.out⟩
    | some q =>
      obtain ⟨x, R1, m1⟩ := q
      have hlt1 := hle _ _ _ _ _ hfr
      rw [hfr] at h2 hQ
      obtain ⟨rfl, hp2, cs, he2, hs2⟩ := h2
      have HQ := Hid.mk' hQ
      have hcs := hSh.len hs2
      obtain ⟨b0, b1, b2, rfl⟩ := hform hs2
      obtain ⟨E2, hput⟩ := Lst.put hSh Tryz.underlying24 info_rows rfl (by decide) HL.out hgw hpw (Fr.of_alloc wr (.cells [.slice none 0 0].toArray 26)) (Nat.le_refl _) hf2 hp2 hs2 hEx.out hlt1
      have HA := Hid.mk' hput
      have z1 : w2.cell? ⟨g, o, none⟩ = some v := E2.cell (j := 0) rfl
      have zg := E2.lt
      have zf := E2.fz
      have zx := he2.lt
      have x0 : w2.cell? ⟨wr.heap.size, 0, none⟩ = some (.slice b0 b1 b2) := by have := he2.cell (j := 0) rfl; rwa [Nat.zero_add] at this
      clear hput E2 hf2 hp2 he2 hs2 hQ hfr HI hcs
      go_wp2
      refine wp_region_held_drew (S := (fun _ : World => True)) (by kernel_rfl) (trivial) (fun hS => ?_)
      refine wpAnyH_take (i := 0) (v := ?_) rfl (by kernel_rfl) (by kernel_rfl) (by kernel_rfl) (fun _ _ _ h => h) (Or.inl ⟨by rfl, ?_⟩) hS ?_
      rotate_left
      · (intro w hSw; (try dsimp only at hSw); go_simp; try (with_reducible rfl))
      try simp only [Act.put, List.setIfInBounds_toArray]
      refine wpAnyH_take (i := 1) (v := ?_) rfl (by kernel_rfl) (by kernel_rfl) (by kernel_rfl) (fun _ _ _ h => h) (Or.inl ⟨by rfl, ?_⟩) hS ?_
      rotate_left
      · (intro w hSw; (try dsimp only at hSw); go_simp; try (with_reducible rfl))
      try simp only [Act.put]
      refine wpAnyH_take (i := 2) (v := ?_) rfl (by kernel_rfl) (by kernel_rfl) (by kernel_rfl) (fun _ _ _ h => h) (Or.inl ⟨by rfl, ?_⟩) hS ?_
      rotate_left
      · (intro w hSw; (try dsimp only at hSw); go_simp; try (with_reducible rfl))
      try simp only [Act.put]
      refine wpAnyH_ready (rs := [3, 4]) (by kernel_rfl) (by simp) ?_
      refine (AllReadyH.cons rfl (fun K hK => ?_) (AllReadyH.cons rfl (fun K hK => ?_) AllReadyH.nil))
      · go_simp
        refine hK.out _ _ trivial (fun hS => ?_)
        clear hK K
        try simp only [Act.put, List.setIfInBounds_toArray, List.set_cons_zero, List.set_cons_succ]
        refine wpAnyH_ready (rs := [4]) (by kernel_rfl) (by simp) ?_
        refine (AllReadyH.cons rfl (fun K hK => ?_) AllReadyH.nil)
        go_simp
        refine hK.out _ _ trivial (fun hS => ?_)
        clear hK K
        try simp only [Act.put, List.setIfInBounds_toArray, List.set_cons_zero, List.set_cons_succ]
        refine wpAnyH_ready (rs := [5]) (by kernel_rfl) (by simp) ?_
        refine (AllReadyH.cons rfl (fun K hK => ?_) AllReadyH.nil)
        go_simp
        refine hK.out _ _ trivial (fun hS => ?_)
        clear hK K
        try simp only [Act.put, List.setIfInBounds_toArray, List.set_cons_zero, List.set_cons_succ]
        refine wpAnyH_ready (rs := [6]) (by kernel_rfl) (by simp) ?_
        refine (AllReadyH.cons rfl (fun K hK => ?_) AllReadyH.nil)
        refine step_append_ex (by rfl) _ _ 24 (by rfl) v (.slice (some ⟨w2.heap.size, 0, none⟩) 1 1) (by rfl) (by rfl) HA.out ?_
        rintro _ w5 ⟨⟨a5, m5, d5, rfl⟩, k1, k2, k3, HW⟩
        refine hK.out _ _ trivial (fun hS => ?_)
        clear hK K
        try simp only [Act.put, List.setIfInBounds_toArray]
        refine wpAnyH_take (i := 7) (v := ?_) rfl (by kernel_rfl) (by kernel_rfl) (by kernel_rfl) (fun _ _ _ h => h) (Or.inl ⟨by rfl, ?_⟩) hS ?_
        rotate_left
        · (intro w hSw; (try dsimp only at hSw); go_simp; try (with_reducible rfl))
        try simp only [Act.put]
        refine wpAnyH_ready (rs := [8]) (by kernel_rfl) (by simp) ?_
        refine (AllReadyH.cons rfl (fun K hK => ?_) AllReadyH.nil)
        go_simp
        refine hK.out _ _ trivial (fun hS => ?_)
        clear hK K
        try simp only [Act.put, List.setIfInBounds_toArray, List.set_cons_zero, List.set_cons_succ]
        refine wpAnyH_done (by kernel_rfl) ?_ _
        have HTk := Hid.mk' (take_any [44] (by decide) (by decide) HW.out.choose_spec.1.1)
        go_wp2_with fail
        refine (HTk.out).mono ?_
        rintro e w7 ⟨hf7, ⟨n7, rfl, hp7⟩ | ⟨R2, n7, rfl, hp7⟩⟩
        · have hfin := Lst.done (T := 26) hpw HW.out hf7 hp7 (Nat.le_refl _) hSh
          rw [n7] at HQ
          have HF := Hid.mk' hfin
          have HR := Hid.mk' (HR0.out.trans HQ.out)
          clear hfin hf7 hp7 n7 HTk HQ
          go_wp2
          go_ret
          rw [HR.out]
          exact HF.out
        · have hst := Lst.tick hpw HW.out hf7 hp7 (Z.tk_le n7) hSh
          have hR2 := Z.tk_le n7
          rw [n7] at HQ
          have HF := Hid.mk' hst
          have HR := Hid.mk' (HR0.out.trans HQ.out)
          have hlt7 := Z.tk_lt (by decide) n7
          clear hst hf7 hp7 n7 HTk HQ
          go_wp2
          go_roundg c2
          case measure => omega
          case rel => exact ⟨R2, m1, _, _, HF, HR, by omega, by omega⟩
      · go_simp
        refine hK.out _ _ trivial (fun hS => ?_)
        clear hK K
        try simp only [Act.put, List.setIfInBounds_toArray, List.set_cons_zero, List.set_cons_succ]
        refine wpAnyH_ready (rs := [3, 5]) (by kernel_rfl) (by simp) ?_
        refine (AllReadyH.cons rfl (fun K hK => ?_) (AllReadyH.cons rfl (fun K hK => ?_) AllReadyH.nil))
        · go_simp
          refine hK.out _ _ trivial (fun hS => ?_)
          clear hK K
          try simp only [Act.put, List.setIfInBounds_toArray, List.set_cons_zero, List.set_cons_succ]
          refine wpAnyH_ready (rs := [5]) (by kernel_rfl) (by simp) ?_
          refine (AllReadyH.cons rfl (fun K hK => ?_) AllReadyH.nil)
          go_simp
          refine hK.out _ _ trivial (fun hS => ?_)
          clear hK K
          try simp only [Act.put, List.setIfInBounds_toArray, List.set_cons_zero, List.set_cons_succ]
          refine wpAnyH_ready (rs := [6]) (by kernel_rfl) (by simp) ?_
          refine (AllReadyH.cons rfl (fun K hK => ?_) AllReadyH.nil)
          refine step_append_ex (by rfl) _ _ 24 (by rfl) v (.slice (some ⟨w2.heap.size, 0, none⟩) 1 1) (by rfl) (by rfl) HA.out ?_
          rintro _ w5 ⟨⟨a5, m5, d5, rfl⟩, k1, k2, k3, HW⟩
          refine hK.out _ _ trivial (fun hS => ?_)
          clear hK K
          try simp only [Act.put, List.setIfInBounds_toArray]
          refine wpAnyH_take (i := 7) (v := ?_) rfl (by kernel_rfl) (by kernel_rfl) (by kernel_rfl) (fun _ _ _ h => h) (Or.inl ⟨by rfl, ?_⟩) hS ?_
          rotate_left
          · (intro w hSw; (try dsimp only at hSw); go_simp; try (with_reducible rfl))
          try simp only [Act.put]
          refine wpAnyH_ready (rs := [8]) (by kernel_rfl) (by simp) ?_
          refine (AllReadyH.cons rfl (fun K hK => ?_) AllReadyH.nil)
          go_simp
          refine hK.out _ _ trivial (fun hS => ?_)
          clear hK K
          try simp only [Act.put, List.setIfInBounds_toArray, List.set_cons_zero, List.set_cons_succ]
          refine wpAnyH_done (by kernel_rfl) ?_ _
          have HTk := Hid.mk' (take_any [44] (by decide) (by decide) HW.out.choose_spec.1.1)
          go_wp2_with fail
          refine (HTk.out).mono ?_
          rintro e w7 ⟨hf7, ⟨n7, rfl, hp7⟩ | ⟨R2, n7, rfl, hp7⟩⟩
          · have hfin := Lst.done (T := 26) hpw HW.out hf7 hp7 (Nat.le_refl _) hSh
            rw [n7] at HQ
            have HF := Hid.mk' hfin
            have HR := Hid.mk' (HR0.out.trans HQ.out)
            clear hfin hf7 hp7 n7 HTk HQ
            go_wp2
            go_ret
            rw [HR.out]
            exact HF.out
          · have hst := Lst.tick hpw HW.out hf7 hp7 (Z.tk_le n7) hSh
            have hR2 := Z.tk_le n7
            rw [n7] at HQ
            have HF := Hid.mk' hst
            have HR := Hid.mk' (HR0.out.trans HQ.out)
            have hlt7 := Z.tk_lt (by decide) n7
            clear hst hf7 hp7 n7 HTk HQ
            go_wp2
            go_roundg c2
            case measure => omega
            case rel => exact ⟨R2, m1, _, _, HF, HR, by omega, by omega⟩
        · go_simp
          refine hK.out _ _ trivial (fun hS => ?_)
          clear hK K
          try simp only [Act.put, List.setIfInBounds_toArray, List.set_cons_zero, List.set_cons_succ]
          refine wpAnyH_ready (rs := [3]) (by kernel_rfl) (by simp) ?_
          refine (AllReadyH.cons rfl (fun K hK => ?_) AllReadyH.nil)
          go_simp
          refine hK.out _ _ trivial (fun hS => ?_)
          clear hK K
          try simp only [Act.put, List.setIfInBounds_toArray, List.set_cons_zero, List.set_cons_succ]
          refine wpAnyH_ready (rs := [6]) (by kernel_rfl) (by simp) ?_
          refine (AllReadyH.cons rfl (fun K hK => ?_) AllReadyH.nil)
          refine step_append_ex (by rfl) _ _ 24 (by rfl) v (.slice (some ⟨w2.heap.size, 0, none⟩) 1 1) (by rfl) (by rfl) HA.out ?_
          rintro _ w5 ⟨⟨a5, m5, d5, rfl⟩, k1, k2, k3, HW⟩
          refine hK.out _ _ trivial (fun hS => ?_)
          clear hK K
          try simp only [Act.put, List.setIfInBounds_toArray]
          refine wpAnyH_take (i := 7) (v := ?_) rfl (by kernel_rfl) (by kernel_rfl) (by kernel_rfl) (fun _ _ _ h => h) (Or.inl ⟨by rfl, ?_⟩) hS ?_
          rotate_left
          · (intro w hSw; (try dsimp only at hSw); go_simp; try (with_reducible rfl))
          try simp only [Act.put]
          refine wpAnyH_ready (rs := [8]) (by kernel_rfl) (by simp) ?_
          refine (AllReadyH.cons rfl (fun K hK => ?_) AllReadyH.nil)
          go_simp
          refine hK.out _ _ trivial (fun hS => ?_)
          clear hK K
          try simp only [Act.put, List.setIfInBounds_toArray, List.set_cons_zero, List.set_cons_succ]
          refine wpAnyH_done (by kernel_rfl) ?_ _
          have HTk := Hid.mk' (take_any [44] (by decide) (by decide) HW.out.choose_spec.1.1)
          go_wp2_with fail
          refine (HTk.out).mono ?_
          rintro e w7 ⟨hf7, ⟨n7, rfl, hp7⟩ | ⟨R2, n7, rfl, hp7⟩⟩
          · have hfin := Lst.done (T := 26) hpw HW.out hf7 hp7 (Nat.le_refl _) hSh
            rw [n7] at HQ
            have HF := Hid.mk' hfin
            have HR := Hid.mk' (HR0.out.trans HQ.out)
            clear hfin hf7 hp7 n7 HTk HQ
            go_wp2
            go_ret
            rw [HR.out]
            exact HF.out
          · have hst := Lst.tick hpw HW.out hf7 hp7 (Z.tk_le n7) hSh
            have hR2 := Z.tk_le n7
            rw [n7] at HQ
            have HF := Hid.mk' hst
            have HR := Hid.mk' (HR0.out.trans HQ.out)
            have hlt7 := Z.tk_lt (by decide) n7
            clear hst hf7 hp7 n7 HTk HQ
            go_wp2
            go_roundg c2
            case measure => omega
            case rel => exact ⟨R2, m1, _, _, HF, HR, by omega, by omega⟩

theorem info_sets : (Tryz.prog.info? 85).map (fun i => (i.zero, i.size, i.bytes)) = some (some (.agg #[.string ⟨#[]⟩, .int .i64 0, .int .i64 0, .int .i64 0, .string ⟨#[]⟩, .string ⟨#[]⟩, .string ⟨#[]⟩, .slice none 0 0]), 8, 112) := by kernel_rfl
set_option maxRecDepth 100000 in
set_option maxHeartbeats 2000000 in
theorem list_sets {α : Type} {Sh : Shows α} (hSh : ShOk Sh 8) {F : Nat} (hcf : ∀ (args : Array Value) (w : World), (callFunc F args).run Tryz.prog w = .ok (.enter F args) w) {f : List L.Tok → Int → Z.Rs α} {d : Int} {B : Nat} (HF : ReadsI Sh F f d [.string ⟨#[]⟩, .int .i64 0, .int .i64 0, .int .i64 0, .string ⟨#[]⟩, .string ⟨#[]⟩, .string ⟨#[]⟩, .slice none 0 0] B)
    {w : World} {p : Nat} {R : List L.Tok} {m : Int} (h : PS w p R d m) (hB : R.length ≤ B) (hR : R.length ≤ 500000) (hle : ∀ R m x R1 m1, f R m = some (x, R1, m1) → R1.length < R.length) {g o : Nat} {T0 : TypeId} {cur : List Value} (he : EL w g o T0 cur [.slice none 0 0]) :
    Calls Tryz.prog 73 #[.pointer (some ⟨p, 0, none⟩), .pointer (some ⟨g, o, none⟩), .func (.func F) #[.pointer (some ⟨p, 0, none⟩)] #[]] w (OutI (ShRow Sh 85 8) w p g o T0 cur d (Z.list f R m)) := by
  have HL := Hid.mk' (Lst.start (Sh := Sh) (T := 85) (sz := 8) h he (by omega))
  obtain ⟨r, hr⟩ : ∃ r, Z.list f R m = r := ⟨_, rfl⟩
  have HR0 : Hid (r = Z.listF f (R.length + 1) R m []) := hr.symm
  rw [hr]
  have hgw := he.lt
  have hpw := h.lt
  have hne := he.ne h
  clear h he hr
  go_enter Tryz.func73, Tryz.ntmps73
  go_wp2
  go_loopg [7] (R.length + 1) (fun c' _ wr => ∃ (R' : List L.Tok) (m' : Int) (l : List α) (v : Value), Hid (Lst Sh 85 8 w wr p R' d m' g o T0 cur l v) ∧ Hid (r = Z.listF f c' R' m' l) ∧ R'.length < c' ∧ R'.length ≤ R.length)
  case atStart => exact ⟨R, m, [], _, HL, HR0, by omega, Nat.le_refl _⟩
  case round =>
    clear HL HR0
    obtain ⟨R', m', l, v, HL, HR0, hc, hRR⟩ := hrel
    obtain ⟨c2, rfl⟩ : ∃ c2, gk = c2 + 1 := ⟨gk - 1, by omega⟩
    have h7 := HL.out.seven
    have hEx := Hid.mk' (EL.fresh wr 85 [.string ⟨#[]⟩, .int .i64 0, .int .i64 0, .int .i64 0, .string ⟨#[]⟩, .string ⟨#[]⟩, .string ⟨#[]⟩, .slice none 0 0] h7 (by decide) (by decide))
    have HI := Hid.mk' (HF ((HL.out.choose_spec.1.keep (Fr.of_alloc wr (.cells [.string ⟨#[]⟩, .int .i64 0, .int .i64 0, .int .i64 0, .string ⟨#[]⟩, .string ⟨#[]⟩, .string ⟨#[]⟩, .slice none 0 0].toArray 85))).1) (by omega) hEx.out)
    go_wp2_with fail
    refine (HI.out).mono ?_
    intro e w2 h2
    have hQ := Z.listF_step f c2 R' m' l
    obtain ⟨hf2, h2⟩ := h2
    cases hfr : f R' m' with
    | none =>
      rw [hfr] at h2 hQ
      obtain ⟨rfl, hpf⟩ := h2
      have HR := Hid.mk' (HR0.out.trans hQ)
      have HF2 := Hid.mk' (HL.out.frame hf2)
      have HPF := Hid.mk' hpf
      clear hf2 hpf hQ hfr HI
      go_wp2
      go_ret
      rw [HR.out]
      exact ⟨HF2.out, rfl, HPF.out⟩
    | some q =>
      obtain ⟨x, R1, m1⟩ := q
      have hlt1 := hle _ _ _ _ _ hfr
      rw [hfr] at h2 hQ
      obtain ⟨rfl, hp2, cs, he2, hs2⟩ := h2
      have HQ := Hid.mk' hQ
      have hcs := hSh.len hs2
      obtain ⟨b0, b1, b2, b3, b4, b5, b6, b7, rfl⟩ := form8 hcs
      obtain ⟨E2, hput⟩ := Lst.put hSh Tryz.underlying25 info_sets rfl (by decide) HL.out hgw hpw (Fr.of_alloc wr (.cells [.string ⟨#[]⟩, .int .i64 0, .int .i64 0, .int .i64 0, .string ⟨#[]⟩, .string ⟨#[]⟩, .string ⟨#[]⟩, .slice none 0 0].toArray 85)) (Nat.le_refl _) hf2 hp2 hs2 hEx.out hlt1
      have HA := Hid.mk' hput
      have z1 : w2.cell? ⟨g, o, none⟩ = some v := E2.cell (j := 0) rfl
      have zg := E2.lt
      have zf := E2.fz
      have zx := he2.lt
      have x0 : w2.cell? ⟨wr.heap.size, 0, none⟩ = some (b0) := by have := he2.cell (j := 0) rfl; rwa [Nat.zero_add] at this
      have x1 : w2.cell? ⟨wr.heap.size, 1, none⟩ = some (b1) := by have := he2.cell (j := 1) rfl; rwa [Nat.zero_add] at this
      have x2 : w2.cell? ⟨wr.heap.size, 2, none⟩ = some (b2) := by have := he2.cell (j := 2) rfl; rwa [Nat.zero_add] at this
      have x3 : w2.cell? ⟨wr.heap.size, 3, none⟩ = some (b3) := by have := he2.cell (j := 3) rfl; rwa [Nat.zero_add] at this
      have x4 : w2.cell? ⟨wr.heap.size, 4, none⟩ = some (b4) := by have := he2.cell (j := 4) rfl; rwa [Nat.zero_add] at this
      have x5 : w2.cell? ⟨wr.heap.size, 5, none⟩ = some (b5) := by have := he2.cell (j := 5) rfl; rwa [Nat.zero_add] at this
      have x6 : w2.cell? ⟨wr.heap.size, 6, none⟩ = some (b6) := by have := he2.cell (j := 6) rfl; rwa [Nat.zero_add] at this
      have x7 : w2.cell? ⟨wr.heap.size, 7, none⟩ = some (b7) := by have := he2.cell (j := 7) rfl; rwa [Nat.zero_add] at this
      clear hput E2 hf2 hp2 he2 hs2 hQ hfr HI hcs
      go_wp2
      refine wp_region_held_drew (S := (fun _ : World => True)) (by kernel_rfl) (trivial) (fun hS => ?_)
      refine wpAnyH_take (i := 0) (v := ?_) rfl (by kernel_rfl) (by kernel_rfl) (by kernel_rfl) (fun _ _ _ h => h) (Or.inl ⟨by rfl, ?_⟩) hS ?_
      rotate_left
      · (intro w hSw; (try dsimp only at hSw); go_simp; try (with_reducible rfl))
      try simp only [Act.put, List.setIfInBounds_toArray]
      refine wpAnyH_take (i := 1) (v := ?_) rfl (by kernel_rfl) (by kernel_rfl) (by kernel_rfl) (fun _ _ _ h => h) (Or.inl ⟨by rfl, ?_⟩) hS ?_
      rotate_left
      · (intro w hSw; (try dsimp only at hSw); go_simp; try (with_reducible rfl))
      try simp only [Act.put]
      refine wpAnyH_take (i := 2) (v := ?_) rfl (by kernel_rfl) (by kernel_rfl) (by kernel_rfl) (fun _ _ _ h => h) (Or.inl ⟨by rfl, ?_⟩) hS ?_
      rotate_left
      · (intro w hSw; (try dsimp only at hSw); go_simp; try (with_reducible rfl))
      try simp only [Act.put]
      refine wpAnyH_ready (rs := [3, 4]) (by kernel_rfl) (by simp) ?_
      refine (AllReadyH.cons rfl (fun K hK => ?_) (AllReadyH.cons rfl (fun K hK => ?_) AllReadyH.nil))
      · go_simp
        refine hK.out _ _ trivial (fun hS => ?_)
        clear hK K
        try simp only [Act.put, List.setIfInBounds_toArray, List.set_cons_zero, List.set_cons_succ]
        refine wpAnyH_ready (rs := [4]) (by kernel_rfl) (by simp) ?_
        refine (AllReadyH.cons rfl (fun K hK => ?_) AllReadyH.nil)
        go_simp
        refine hK.out _ _ trivial (fun hS => ?_)
        clear hK K
        try simp only [Act.put, List.setIfInBounds_toArray, List.set_cons_zero, List.set_cons_succ]
        refine wpAnyH_ready (rs := [5]) (by kernel_rfl) (by simp) ?_
        refine (AllReadyH.cons rfl (fun K hK => ?_) AllReadyH.nil)
        go_simp
        refine hK.out _ _ trivial (fun hS => ?_)
        clear hK K
        try simp only [Act.put, List.setIfInBounds_toArray, List.set_cons_zero, List.set_cons_succ]
        refine wpAnyH_ready (rs := [6]) (by kernel_rfl) (by simp) ?_
        refine (AllReadyH.cons rfl (fun K hK => ?_) AllReadyH.nil)
        refine step_append_ex (by rfl) _ _ 25 (by rfl) v (.slice (some ⟨w2.heap.size, 0, none⟩) 1 1) (by rfl) (by rfl) HA.out ?_
        rintro _ w5 ⟨⟨a5, m5, d5, rfl⟩, k1, k2, k3, HW⟩
        refine hK.out _ _ trivial (fun hS => ?_)
        clear hK K
        try simp only [Act.put, List.setIfInBounds_toArray]
        refine wpAnyH_take (i := 7) (v := ?_) rfl (by kernel_rfl) (by kernel_rfl) (by kernel_rfl) (fun _ _ _ h => h) (Or.inl ⟨by rfl, ?_⟩) hS ?_
        rotate_left
        · (intro w hSw; (try dsimp only at hSw); go_simp; try (with_reducible rfl))
        try simp only [Act.put]
        refine wpAnyH_ready (rs := [8]) (by kernel_rfl) (by simp) ?_
        refine (AllReadyH.cons rfl (fun K hK => ?_) AllReadyH.nil)
        go_simp
        refine hK.out _ _ trivial (fun hS => ?_)
        clear hK K
        try simp only [Act.put, List.setIfInBounds_toArray, List.set_cons_zero, List.set_cons_succ]
        refine wpAnyH_done (by kernel_rfl) ?_ _
        have HTk := Hid.mk' (take_any [44] (by decide) (by decide) HW.out.choose_spec.1.1)
        go_wp2_with fail
        refine (HTk.out).mono ?_
        rintro e w7 ⟨hf7, ⟨n7, rfl, hp7⟩ | ⟨R2, n7, rfl, hp7⟩⟩
        · have hfin := Lst.done (T := 85) hpw HW.out hf7 hp7 (Nat.le_refl _) hSh
          rw [n7] at HQ
          have HF := Hid.mk' hfin
          have HR := Hid.mk' (HR0.out.trans HQ.out)
          clear hfin hf7 hp7 n7 HTk HQ
          go_wp2
          go_ret
          rw [HR.out]
          exact HF.out
        · have hst := Lst.tick hpw HW.out hf7 hp7 (Z.tk_le n7) hSh
          have hR2 := Z.tk_le n7
          rw [n7] at HQ
          have HF := Hid.mk' hst
          have HR := Hid.mk' (HR0.out.trans HQ.out)
          have hlt7 := Z.tk_lt (by decide) n7
          clear hst hf7 hp7 n7 HTk HQ
          go_wp2
          go_roundg c2
          case measure => omega
          case rel => exact ⟨R2, m1, _, _, HF, HR, by omega, by omega⟩
      · go_simp
        refine hK.out _ _ trivial (fun hS => ?_)
        clear hK K
        try simp only [Act.put, List.setIfInBounds_toArray, List.set_cons_zero, List.set_cons_succ]
        refine wpAnyH_ready (rs := [3, 5]) (by kernel_rfl) (by simp) ?_
        refine (AllReadyH.cons rfl (fun K hK => ?_) (AllReadyH.cons rfl (fun K hK => ?_) AllReadyH.nil))
        · go_simp
          refine hK.out _ _ trivial (fun hS => ?_)
          clear hK K
          try simp only [Act.put, List.setIfInBounds_toArray, List.set_cons_zero, List.set_cons_succ]
          refine wpAnyH_ready (rs := [5]) (by kernel_rfl) (by simp) ?_
          refine (AllReadyH.cons rfl (fun K hK => ?_) AllReadyH.nil)
          go_simp
          refine hK.out _ _ trivial (fun hS => ?_)
          clear hK K
          try simp only [Act.put, List.setIfInBounds_toArray, List.set_cons_zero, List.set_cons_succ]
          refine wpAnyH_ready (rs := [6]) (by kernel_rfl) (by simp) ?_
          refine (AllReadyH.cons rfl (fun K hK => ?_) AllReadyH.nil)
          refine step_append_ex (by rfl) _ _ 25 (by rfl) v (.slice (some ⟨w2.heap.size, 0, none⟩) 1 1) (by rfl) (by rfl) HA.out ?_
          rintro _ w5 ⟨⟨a5, m5, d5, rfl⟩, k1, k2, k3, HW⟩
          refine hK.out _ _ trivial (fun hS => ?_)
          clear hK K
          try simp only [Act.put, List.setIfInBounds_toArray]
          refine wpAnyH_take (i := 7) (v := ?_) rfl (by kernel_rfl) (by kernel_rfl) (by kernel_rfl) (fun _ _ _ h => h) (Or.inl ⟨by rfl, ?_⟩) hS ?_
          rotate_left
          · (intro w hSw; (try dsimp only at hSw); go_simp; try (with_reducible rfl))
          try simp only [Act.put]
          refine wpAnyH_ready (rs := [8]) (by kernel_rfl) (by simp) ?_
          refine (AllReadyH.cons rfl (fun K hK => ?_) AllReadyH.nil)
          go_simp
          refine hK.out _ _ trivial (fun hS => ?_)
          clear hK K
          try simp only [Act.put, List.setIfInBounds_toArray, List.set_cons_zero, List.set_cons_succ]
          refine wpAnyH_done (by kernel_rfl) ?_ _
          have HTk := Hid.mk' (take_any [44] (by decide) (by decide) HW.out.choose_spec.1.1)
          go_wp2_with fail
          refine (HTk.out).mono ?_
          rintro e w7 ⟨hf7, ⟨n7, rfl, hp7⟩ | ⟨R2, n7, rfl, hp7⟩⟩
          · have hfin := Lst.done (T := 85) hpw HW.out hf7 hp7 (Nat.le_refl _) hSh
            rw [n7] at HQ
            have HF := Hid.mk' hfin
            have HR := Hid.mk' (HR0.out.trans HQ.out)
            clear hfin hf7 hp7 n7 HTk HQ
            go_wp2
            go_ret
            rw [HR.out]
            exact HF.out
          · have hst := Lst.tick hpw HW.out hf7 hp7 (Z.tk_le n7) hSh
            have hR2 := Z.tk_le n7
            rw [n7] at HQ
            have HF := Hid.mk' hst
            have HR := Hid.mk' (HR0.out.trans HQ.out)
            have hlt7 := Z.tk_lt (by decide) n7
            clear hst hf7 hp7 n7 HTk HQ
            go_wp2
            go_roundg c2
            case measure => omega
            case rel => exact ⟨R2, m1, _, _, HF, HR, by omega, by omega⟩
        · go_simp
          refine hK.out _ _ trivial (fun hS => ?_)
          clear hK K
          try simp only [Act.put, List.setIfInBounds_toArray, List.set_cons_zero, List.set_cons_succ]
          refine wpAnyH_ready (rs := [3]) (by kernel_rfl) (by simp) ?_
          refine (AllReadyH.cons rfl (fun K hK => ?_) AllReadyH.nil)
          go_simp
          refine hK.out _ _ trivial (fun hS => ?_)
          clear hK K
          try simp only [Act.put, List.setIfInBounds_toArray, List.set_cons_zero, List.set_cons_succ]
          refine wpAnyH_ready (rs := [6]) (by kernel_rfl) (by simp) ?_
          refine (AllReadyH.cons rfl (fun K hK => ?_) AllReadyH.nil)
          refine step_append_ex (by rfl) _ _ 25 (by rfl) v (.slice (some ⟨w2.heap.size, 0, none⟩) 1 1) (by rfl) (by rfl) HA.out ?_
          rintro _ w5 ⟨⟨a5, m5, d5, rfl⟩, k1, k2, k3, HW⟩
          refine hK.out _ _ trivial (fun hS => ?_)
          clear hK K
          try simp only [Act.put, List.setIfInBounds_toArray]
          refine wpAnyH_take (i := 7) (v := ?_) rfl (by kernel_rfl) (by kernel_rfl) (by kernel_rfl) (fun _ _ _ h => h) (Or.inl ⟨by rfl, ?_⟩) hS ?_
          rotate_left
          · (intro w hSw; (try dsimp only at hSw); go_simp; try (with_reducible rfl))
          try simp only [Act.put]
          refine wpAnyH_ready (rs := [8]) (by kernel_rfl) (by simp) ?_
          refine (AllReadyH.cons rfl (fun K hK => ?_) AllReadyH.nil)
          go_simp
          refine hK.out _ _ trivial (fun hS => ?_)
          clear hK K
          try simp only [Act.put, List.setIfInBounds_toArray, List.set_cons_zero, List.set_cons_succ]
          refine wpAnyH_done (by kernel_rfl) ?_ _
          have HTk := Hid.mk' (take_any [44] (by decide) (by decide) HW.out.choose_spec.1.1)
          go_wp2_with fail
          refine (HTk.out).mono ?_
          rintro e w7 ⟨hf7, ⟨n7, rfl, hp7⟩ | ⟨R2, n7, rfl, hp7⟩⟩
          · have hfin := Lst.done (T := 85) hpw HW.out hf7 hp7 (Nat.le_refl _) hSh
            rw [n7] at HQ
            have HF := Hid.mk' hfin
            have HR := Hid.mk' (HR0.out.trans HQ.out)
            clear hfin hf7 hp7 n7 HTk HQ
            go_wp2
            go_ret
            rw [HR.out]
            exact HF.out
          · have hst := Lst.tick hpw HW.out hf7 hp7 (Z.tk_le n7) hSh
            have hR2 := Z.tk_le n7
            rw [n7] at HQ
            have HF := Hid.mk' hst
            have HR := Hid.mk' (HR0.out.trans HQ.out)
            have hlt7 := Z.tk_lt (by decide) n7
            clear hst hf7 hp7 n7 HTk HQ
            go_wp2
            go_roundg c2
            case measure => omega
            case rel => exact ⟨R2, m1, _, _, HF, HR, by omega, by omega⟩

theorem info_names : (Tryz.prog.info? 9).map (fun i => (i.zero, i.size, i.bytes)) = some (some (.string ⟨#[]⟩), 1, 16) := by kernel_rfl
set_option maxRecDepth 100000 in
set_option maxHeartbeats 2000000 in
theorem list_names {α : Type} {Sh : Shows α} (hSh : ShOk Sh 1) (hform : ∀ {w : World} {ok : Nat → Prop} {x : α} {cs : List Value}, Sh w ok x cs → ∃ s, cs = [.string s]) {F : Nat} (hcf : ∀ (args : Array Value) (w : World), (callFunc F args).run Tryz.prog w = .ok (.enter F args) w) {f : List L.Tok → Int → Z.Rs α} {d : Int} {B : Nat} (HF : ReadsI Sh F f d [.string ⟨#[]⟩] B)
    {w : World} {p : Nat} {R : List L.Tok} {m : Int} (h : PS w p R d m) (hB : R.length ≤ B) (hR : R.length ≤ 500000) (hle : ∀ R m x R1 m1, f R m = some (x, R1, m1) → R1.length < R.length) {g o : Nat} {T0 : TypeId} {cur : List Value} (he : EL w g o T0 cur [.slice none 0 0]) :
    Calls Tryz.prog 76 #[.pointer (some ⟨p, 0, none⟩), .pointer (some ⟨g, o, none⟩), .func (.func F) #[.pointer (some ⟨p, 0, none⟩)] #[]] w (OutI (ShRow Sh 9 1) w p g o T0 cur d (Z.list f R m)) := by
  have HL := Hid.mk' (Lst.start (Sh := Sh) (T := 9) (sz := 1) h he (by omega))
  obtain ⟨r, hr⟩ : ∃ r, Z.list f R m = r := ⟨_, rfl⟩
  have HR0 : Hid (r = Z.listF f (R.length + 1) R m []) := hr.symm
  rw [hr]
  have hgw := he.lt
  have hpw := h.lt
  have hne := he.ne h
  clear h he hr
  go_enter Tryz.func76, Tryz.ntmps76
  go_wp2
  go_loopg [7] (R.length + 1) (fun c' _ wr => ∃ (R' : List L.Tok) (m' : Int) (l : List α) (v : Value), Hid (Lst Sh 9 1 w wr p R' d m' g o T0 cur l v) ∧ Hid (r = Z.listF f c' R' m' l) ∧ R'.length < c' ∧ R'.length ≤ R.length)
  case atStart => exact ⟨R, m, [], _, HL, HR0, by omega, Nat.le_refl _⟩
  case round =>
    clear HL HR0
    obtain ⟨R', m', l, v, HL, HR0, hc, hRR⟩ := hrel
    obtain ⟨c2, rfl⟩ : ∃ c2, gk = c2 + 1 := ⟨gk - 1, by omega⟩
    have h7 := HL.out.seven
    have hEx := Hid.mk' (EL.fresh wr 9 [.string ⟨#[]⟩] h7 (by decide) (by decide))
    have HI := Hid.mk' (HF ((HL.out.choose_spec.1.keep (Fr.of_alloc wr (.cells [.string ⟨#[]⟩].toArray 9))).1) (by omega) hEx.out)
    go_wp2_with fail
    refine (HI.out).mono ?_
    intro e w2 h2
    have hQ := Z.listF_step f c2 R' m' l
    obtain ⟨hf2, h2⟩ := h2
    cases hfr : f R' m' with
    | none =>
      rw [hfr] at h2 hQ
      obtain ⟨rfl, hpf⟩ := h2
      have HR := Hid.mk' (HR0.out.trans hQ)
      have HF2 := Hid.mk' (HL.out.frame hf2)
      have HPF := Hid.mk' hpf
      clear hf2 hpf hQ hfr HI
      go_wp2
      go_ret
      rw [HR.out]
      exact ⟨HF2.out, rfl, HPF.out⟩
    | some q =>
      obtain ⟨x, R1, m1⟩ := q
      have hlt1 := hle _ _ _ _ _ hfr
      rw [hfr] at h2 hQ
      obtain ⟨rfl, hp2, cs, he2, hs2⟩ := h2
      have HQ := Hid.mk' hQ
      have hcs := hSh.len hs2
      obtain ⟨b0, rfl⟩ := hform hs2
      obtain ⟨E2, hput⟩ := Lst.put hSh Tryz.underlying22 info_names rfl (by decide) HL.out hgw hpw (Fr.of_alloc wr (.cells [.string ⟨#[]⟩].toArray 9)) (Nat.le_refl _) hf2 hp2 hs2 hEx.out hlt1
      have HA := Hid.mk' hput
      have z1 : w2.cell? ⟨g, o, none⟩ = some v := E2.cell (j := 0) rfl
      have zg := E2.lt
      have zf := E2.fz
      have zx := he2.lt
      have x0 : w2.cell? ⟨wr.heap.size, 0, none⟩ = some (.string b0) := by have := he2.cell (j := 0) rfl; rwa [Nat.zero_add] at this
      clear hput E2 hf2 hp2 he2 hs2 hQ hfr HI hcs
      go_wp2
      refine wp_region_held_drew (S := (fun _ : World => True)) (by kernel_rfl) (trivial) (fun hS => ?_)
      refine wpAnyH_take (i := 0) (v := ?_) rfl (by kernel_rfl) (by kernel_rfl) (by kernel_rfl) (fun _ _ _ h => h) (Or.inl ⟨by rfl, ?_⟩) hS ?_
      rotate_left
      · (intro w hSw; (try dsimp only at hSw); go_simp; try (with_reducible rfl))
      try simp only [Act.put, List.setIfInBounds_toArray]
      refine wpAnyH_take (i := 1) (v := ?_) rfl (by kernel_rfl) (by kernel_rfl) (by kernel_rfl) (fun _ _ _ h => h) (Or.inl ⟨by rfl, ?_⟩) hS ?_
      rotate_left
      · (intro w hSw; (try dsimp only at hSw); go_simp; try (with_reducible rfl))
      try simp only [Act.put]
      refine wpAnyH_take (i := 2) (v := ?_) rfl (by kernel_rfl) (by kernel_rfl) (by kernel_rfl) (fun _ _ _ h => h) (Or.inl ⟨by rfl, ?_⟩) hS ?_
      rotate_left
      · (intro w hSw; (try dsimp only at hSw); go_simp; try (with_reducible rfl))
      try simp only [Act.put]
      refine wpAnyH_ready (rs := [3, 4]) (by kernel_rfl) (by simp) ?_
      refine (AllReadyH.cons rfl (fun K hK => ?_) (AllReadyH.cons rfl (fun K hK => ?_) AllReadyH.nil))
      · go_simp
        refine hK.out _ _ trivial (fun hS => ?_)
        clear hK K
        try simp only [Act.put, List.setIfInBounds_toArray, List.set_cons_zero, List.set_cons_succ]
        refine wpAnyH_ready (rs := [4]) (by kernel_rfl) (by simp) ?_
        refine (AllReadyH.cons rfl (fun K hK => ?_) AllReadyH.nil)
        go_simp
        refine hK.out _ _ trivial (fun hS => ?_)
        clear hK K
        try simp only [Act.put, List.setIfInBounds_toArray, List.set_cons_zero, List.set_cons_succ]
        refine wpAnyH_ready (rs := [5]) (by kernel_rfl) (by simp) ?_
        refine (AllReadyH.cons rfl (fun K hK => ?_) AllReadyH.nil)
        go_simp
        refine hK.out _ _ trivial (fun hS => ?_)
        clear hK K
        try simp only [Act.put, List.setIfInBounds_toArray, List.set_cons_zero, List.set_cons_succ]
        refine wpAnyH_ready (rs := [6]) (by kernel_rfl) (by simp) ?_
        refine (AllReadyH.cons rfl (fun K hK => ?_) AllReadyH.nil)
        refine step_append_ex (by rfl) _ _ 22 (by rfl) v (.slice (some ⟨w2.heap.size, 0, none⟩) 1 1) (by rfl) (by rfl) HA.out ?_
        rintro _ w5 ⟨⟨a5, m5, d5, rfl⟩, k1, k2, k3, HW⟩
        refine hK.out _ _ trivial (fun hS => ?_)
        clear hK K
        try simp only [Act.put, List.setIfInBounds_toArray]
        refine wpAnyH_take (i := 7) (v := ?_) rfl (by kernel_rfl) (by kernel_rfl) (by kernel_rfl) (fun _ _ _ h => h) (Or.inl ⟨by rfl, ?_⟩) hS ?_
        rotate_left
        · (intro w hSw; (try dsimp only at hSw); go_simp; try (with_reducible rfl))
        try simp only [Act.put]
        refine wpAnyH_ready (rs := [8]) (by kernel_rfl) (by simp) ?_
        refine (AllReadyH.cons rfl (fun K hK => ?_) AllReadyH.nil)
        go_simp
        refine hK.out _ _ trivial (fun hS => ?_)
        clear hK K
        try simp only [Act.put, List.setIfInBounds_toArray, List.set_cons_zero, List.set_cons_succ]
        refine wpAnyH_done (by kernel_rfl) ?_ _
        have HTk := Hid.mk' (take_any [44] (by decide) (by decide) HW.out.choose_spec.1.1)
        go_wp2_with fail
        refine (HTk.out).mono ?_
        rintro e w7 ⟨hf7, ⟨n7, rfl, hp7⟩ | ⟨R2, n7, rfl, hp7⟩⟩
        · have hfin := Lst.done (T := 9) hpw HW.out hf7 hp7 (Nat.le_refl _) hSh
          rw [n7] at HQ
          have HF := Hid.mk' hfin
          have HR := Hid.mk' (HR0.out.trans HQ.out)
          clear hfin hf7 hp7 n7 HTk HQ
          go_wp2
          go_ret
          rw [HR.out]
          exact HF.out
        · have hst := Lst.tick hpw HW.out hf7 hp7 (Z.tk_le n7) hSh
          have hR2 := Z.tk_le n7
          rw [n7] at HQ
          have HF := Hid.mk' hst
          have HR := Hid.mk' (HR0.out.trans HQ.out)
          have hlt7 := Z.tk_lt (by decide) n7
          clear hst hf7 hp7 n7 HTk HQ
          go_wp2
          go_roundg c2
          case measure => omega
          case rel => exact ⟨R2, m1, _, _, HF, HR, by omega, by omega⟩
      · go_simp
        refine hK.out _ _ trivial (fun hS => ?_)
        clear hK K
        try simp only [Act.put, List.setIfInBounds_toArray, List.set_cons_zero, List.set_cons_succ]
        refine wpAnyH_ready (rs := [3, 5]) (by kernel_rfl) (by simp) ?_
        refine (AllReadyH.cons rfl (fun K hK => ?_) (AllReadyH.cons rfl (fun K hK => ?_) AllReadyH.nil))
        · go_simp
          refine hK.out _ _ trivial (fun hS => ?_)
          clear hK K
          try simp only [Act.put, List.setIfInBounds_toArray, List.set_cons_zero, List.set_cons_succ]
          refine wpAnyH_ready (rs := [5]) (by kernel_rfl) (by simp) ?_
          refine (AllReadyH.cons rfl (fun K hK => ?_) AllReadyH.nil)
          go_simp
          refine hK.out _ _ trivial (fun hS => ?_)
          clear hK K
          try simp only [Act.put, List.setIfInBounds_toArray, List.set_cons_zero, List.set_cons_succ]
          refine wpAnyH_ready (rs := [6]) (by kernel_rfl) (by simp) ?_
          refine (AllReadyH.cons rfl (fun K hK => ?_) AllReadyH.nil)
          refine step_append_ex (by rfl) _ _ 22 (by rfl) v (.slice (some ⟨w2.heap.size, 0, none⟩) 1 1) (by rfl) (by rfl) HA.out ?_
          rintro _ w5 ⟨⟨a5, m5, d5, rfl⟩, k1, k2, k3, HW⟩
          refine hK.out _ _ trivial (fun hS => ?_)
          clear hK K
          try simp only [Act.put, List.setIfInBounds_toArray]
          refine wpAnyH_take (i := 7) (v := ?_) rfl (by kernel_rfl) (by kernel_rfl) (by kernel_rfl) (fun _ _ _ h => h) (Or.inl ⟨by rfl, ?_⟩) hS ?_
          rotate_left
          · (intro w hSw; (try dsimp only at hSw); go_simp; try (with_reducible rfl))
          try simp only [Act.put]
          refine wpAnyH_ready (rs := [8]) (by kernel_rfl) (by simp) ?_
          refine (AllReadyH.cons rfl (fun K hK => ?_) AllReadyH.nil)
          go_simp
          refine hK.out _ _ trivial (fun hS => ?_)
          clear hK K
          try simp only [Act.put, List.setIfInBounds_toArray, List.set_cons_zero, List.set_cons_succ]
          refine wpAnyH_done (by kernel_rfl) ?_ _
          have HTk := Hid.mk' (take_any [44] (by decide) (by decide) HW.out.choose_spec.1.1)
          go_wp2_with fail
          refine (HTk.out).mono ?_
          rintro e w7 ⟨hf7, ⟨n7, rfl, hp7⟩ | ⟨R2, n7, rfl, hp7⟩⟩
          · have hfin := Lst.done (T := 9) hpw HW.out hf7 hp7 (Nat.le_refl _) hSh
            rw [n7] at HQ
            have HF := Hid.mk' hfin
            have HR := Hid.mk' (HR0.out.trans HQ.out)
            clear hfin hf7 hp7 n7 HTk HQ
            go_wp2
            go_ret
            rw [HR.out]
            exact HF.out
          · have hst := Lst.tick hpw HW.out hf7 hp7 (Z.tk_le n7) hSh
            have hR2 := Z.tk_le n7
            rw [n7] at HQ
            have HF := Hid.mk' hst
            have HR := Hid.mk' (HR0.out.trans HQ.out)
            have hlt7 := Z.tk_lt (by decide) n7
            clear hst hf7 hp7 n7 HTk HQ
            go_wp2
            go_roundg c2
            case measure => omega
            case rel => exact ⟨R2, m1, _, _, HF, HR, by omega, by omega⟩
        · go_simp
          refine hK.out _ _ trivial (fun hS => ?_)
          clear hK K
          try simp only [Act.put, List.setIfInBounds_toArray, List.set_cons_zero, List.set_cons_succ]
          refine wpAnyH_ready (rs := [3]) (by kernel_rfl) (by simp) ?_
          refine (AllReadyH.cons rfl (fun K hK => ?_) AllReadyH.nil)
          go_simp
          refine hK.out _ _ trivial (fun hS => ?_)
          clear hK K
          try simp only [Act.put, List.setIfInBounds_toArray, List.set_cons_zero, List.set_cons_succ]
          refine wpAnyH_ready (rs := [6]) (by kernel_rfl) (by simp) ?_
          refine (AllReadyH.cons rfl (fun K hK => ?_) AllReadyH.nil)
          refine step_append_ex (by rfl) _ _ 22 (by rfl) v (.slice (some ⟨w2.heap.size, 0, none⟩) 1 1) (by rfl) (by rfl) HA.out ?_
          rintro _ w5 ⟨⟨a5, m5, d5, rfl⟩, k1, k2, k3, HW⟩
          refine hK.out _ _ trivial (fun hS => ?_)
          clear hK K
          try simp only [Act.put, List.setIfInBounds_toArray]
          refine wpAnyH_take (i := 7) (v := ?_) rfl (by kernel_rfl) (by kernel_rfl) (by kernel_rfl) (fun _ _ _ h => h) (Or.inl ⟨by rfl, ?_⟩) hS ?_
          rotate_left
          · (intro w hSw; (try dsimp only at hSw); go_simp; try (with_reducible rfl))
          try simp only [Act.put]
          refine wpAnyH_ready (rs := [8]) (by kernel_rfl) (by simp) ?_
          refine (AllReadyH.cons rfl (fun K hK => ?_) AllReadyH.nil)
          go_simp
          refine hK.out _ _ trivial (fun hS => ?_)
          clear hK K
          try simp only [Act.put, List.setIfInBounds_toArray, List.set_cons_zero, List.set_cons_succ]
          refine wpAnyH_done (by kernel_rfl) ?_ _
          have HTk := Hid.mk' (take_any [44] (by decide) (by decide) HW.out.choose_spec.1.1)
          go_wp2_with fail
          refine (HTk.out).mono ?_
          rintro e w7 ⟨hf7, ⟨n7, rfl, hp7⟩ | ⟨R2, n7, rfl, hp7⟩⟩
          · have hfin := Lst.done (T := 9) hpw HW.out hf7 hp7 (Nat.le_refl _) hSh
            rw [n7] at HQ
            have HF := Hid.mk' hfin
            have HR := Hid.mk' (HR0.out.trans HQ.out)
            clear hfin hf7 hp7 n7 HTk HQ
            go_wp2
            go_ret
            rw [HR.out]
            exact HF.out
          · have hst := Lst.tick hpw HW.out hf7 hp7 (Z.tk_le n7) hSh
            have hR2 := Z.tk_le n7
            rw [n7] at HQ
            have HF := Hid.mk' hst
            have HR := Hid.mk' (HR0.out.trans HQ.out)
            have hlt7 := Z.tk_lt (by decide) n7
            clear hst hf7 hp7 n7 HTk HQ
            go_wp2
            go_roundg c2
            case measure => omega
            case rel => exact ⟨R2, m1, _, _, HF, HR, by omega, by omega⟩

theorem info_cols : (Tryz.prog.info? 81).map (fun i => (i.zero, i.size, i.bytes)) = some (some (.agg #[.string ⟨#[]⟩, .int .i64 0, .bool false]), 3, 32) := by kernel_rfl
set_option maxRecDepth 100000 in
set_option maxHeartbeats 2000000 in
theorem list_cols {α : Type} {Sh : Shows α} (hSh : ShOk Sh 3) {F : Nat} (hcf : ∀ (args : Array Value) (w : World), (callFunc F args).run Tryz.prog w = .ok (.enter F args) w) {f : List L.Tok → Int → Z.Rs α} {d : Int} {B : Nat} (HF : ReadsI Sh F f d [.string ⟨#[]⟩, .int .i64 0, .bool false] B)
    {w : World} {p : Nat} {R : List L.Tok} {m : Int} (h : PS w p R d m) (hB : R.length ≤ B) (hR : R.length ≤ 500000) (hle : ∀ R m x R1 m1, f R m = some (x, R1, m1) → R1.length < R.length) {g o : Nat} {T0 : TypeId} {cur : List Value} (he : EL w g o T0 cur [.slice none 0 0]) :
    Calls Tryz.prog 149 #[.pointer (some ⟨p, 0, none⟩), .pointer (some ⟨g, o, none⟩), .func (.func F) #[.pointer (some ⟨p, 0, none⟩)] #[]] w (OutI (ShRow Sh 81 3) w p g o T0 cur d (Z.list f R m)) := by
  have HL := Hid.mk' (Lst.start (Sh := Sh) (T := 81) (sz := 3) h he (by omega))
  obtain ⟨r, hr⟩ : ∃ r, Z.list f R m = r := ⟨_, rfl⟩
  have HR0 : Hid (r = Z.listF f (R.length + 1) R m []) := hr.symm
  rw [hr]
  have hgw := he.lt
  have hpw := h.lt
  have hne := he.ne h
  clear h he hr
  go_enter Tryz.func149, Tryz.ntmps149
  go_wp2
  go_loopg [7] (R.length + 1) (fun c' _ wr => ∃ (R' : List L.Tok) (m' : Int) (l : List α) (v : Value), Hid (Lst Sh 81 3 w wr p R' d m' g o T0 cur l v) ∧ Hid (r = Z.listF f c' R' m' l) ∧ R'.length < c' ∧ R'.length ≤ R.length)
  case atStart => exact ⟨R, m, [], _, HL, HR0, by omega, Nat.le_refl _⟩
  case round =>
    clear HL HR0
    obtain ⟨R', m', l, v, HL, HR0, hc, hRR⟩ := hrel
    obtain ⟨c2, rfl⟩ : ∃ c2, gk = c2 + 1 := ⟨gk - 1, by omega⟩
    have h7 := HL.out.seven
    have hEx := Hid.mk' (EL.fresh wr 81 [.string ⟨#[]⟩, .int .i64 0, .bool false] h7 (by decide) (by decide))
    have HI := Hid.mk' (HF ((HL.out.choose_spec.1.keep (Fr.of_alloc wr (.cells [.string ⟨#[]⟩, .int .i64 0, .bool false].toArray 81))).1) (by omega) hEx.out)
    go_wp2_with fail
    refine (HI.out).mono ?_
    intro e w2 h2
    have hQ := Z.listF_step f c2 R' m' l
    obtain ⟨hf2, h2⟩ := h2
    cases hfr : f R' m' with
    | none =>
      rw [hfr] at h2 hQ
      obtain ⟨rfl, hpf⟩ := h2
      have HR := Hid.mk' (HR0.out.trans hQ)
      have HF2 := Hid.mk' (HL.out.frame hf2)
      have HPF := Hid.mk' hpf
      clear hf2 hpf hQ hfr HI
      go_wp2
      go_ret
      rw [HR.out]
      exact ⟨HF2.out, rfl, HPF.out⟩
    | some q =>
      obtain ⟨x, R1, m1⟩ := q
      have hlt1 := hle _ _ _ _ _ hfr
      rw [hfr] at h2 hQ
      obtain ⟨rfl, hp2, cs, he2, hs2⟩ := h2
      have HQ := Hid.mk' hQ
      have hcs := hSh.len hs2
      obtain ⟨b0, b1, b2, rfl⟩ := form3 hcs
      obtain ⟨E2, hput⟩ := Lst.put hSh Tryz.underlying23 info_cols rfl (by decide) HL.out hgw hpw (Fr.of_alloc wr (.cells [.string ⟨#[]⟩, .int .i64 0, .bool false].toArray 81)) (Nat.le_refl _) hf2 hp2 hs2 hEx.out hlt1
      have HA := Hid.mk' hput
      have z1 : w2.cell? ⟨g, o, none⟩ = some v := E2.cell (j := 0) rfl
      have zg := E2.lt
      have zf := E2.fz
      have zx := he2.lt
      have x0 : w2.cell? ⟨wr.heap.size, 0, none⟩ = some (b0) := by have := he2.cell (j := 0) rfl; rwa [Nat.zero_add] at this
      have x1 : w2.cell? ⟨wr.heap.size, 1, none⟩ = some (b1) := by have := he2.cell (j := 1) rfl; rwa [Nat.zero_add] at this
      have x2 : w2.cell? ⟨wr.heap.size, 2, none⟩ = some (b2) := by have := he2.cell (j := 2) rfl; rwa [Nat.zero_add] at this
      clear hput E2 hf2 hp2 he2 hs2 hQ hfr HI hcs
      go_wp2
      refine wp_region_held_drew (S := (fun _ : World => True)) (by kernel_rfl) (trivial) (fun hS => ?_)
      refine wpAnyH_take (i := 0) (v := ?_) rfl (by kernel_rfl) (by kernel_rfl) (by kernel_rfl) (fun _ _ _ h => h) (Or.inl ⟨by rfl, ?_⟩) hS ?_
      rotate_left
      · (intro w hSw; (try dsimp only at hSw); go_simp; try (with_reducible rfl))
      try simp only [Act.put, List.setIfInBounds_toArray]
      refine wpAnyH_take (i := 1) (v := ?_) rfl (by kernel_rfl) (by kernel_rfl) (by kernel_rfl) (fun _ _ _ h => h) (Or.inl ⟨by rfl, ?_⟩) hS ?_
      rotate_left
      · (intro w hSw; (try dsimp only at hSw); go_simp; try (with_reducible rfl))
      try simp only [Act.put]
      refine wpAnyH_take (i := 2) (v := ?_) rfl (by kernel_rfl) (by kernel_rfl) (by kernel_rfl) (fun _ _ _ h => h) (Or.inl ⟨by rfl, ?_⟩) hS ?_
      rotate_left
      · (intro w hSw; (try dsimp only at hSw); go_simp; try (with_reducible rfl))
      try simp only [Act.put]
      refine wpAnyH_ready (rs := [3, 4]) (by kernel_rfl) (by simp) ?_
      refine (AllReadyH.cons rfl (fun K hK => ?_) (AllReadyH.cons rfl (fun K hK => ?_) AllReadyH.nil))
      · go_simp
        refine hK.out _ _ trivial (fun hS => ?_)
        clear hK K
        try simp only [Act.put, List.setIfInBounds_toArray, List.set_cons_zero, List.set_cons_succ]
        refine wpAnyH_ready (rs := [4]) (by kernel_rfl) (by simp) ?_
        refine (AllReadyH.cons rfl (fun K hK => ?_) AllReadyH.nil)
        go_simp
        refine hK.out _ _ trivial (fun hS => ?_)
        clear hK K
        try simp only [Act.put, List.setIfInBounds_toArray, List.set_cons_zero, List.set_cons_succ]
        refine wpAnyH_ready (rs := [5]) (by kernel_rfl) (by simp) ?_
        refine (AllReadyH.cons rfl (fun K hK => ?_) AllReadyH.nil)
        go_simp
        refine hK.out _ _ trivial (fun hS => ?_)
        clear hK K
        try simp only [Act.put, List.setIfInBounds_toArray, List.set_cons_zero, List.set_cons_succ]
        refine wpAnyH_ready (rs := [6]) (by kernel_rfl) (by simp) ?_
        refine (AllReadyH.cons rfl (fun K hK => ?_) AllReadyH.nil)
        refine step_append_ex (by rfl) _ _ 23 (by rfl) v (.slice (some ⟨w2.heap.size, 0, none⟩) 1 1) (by rfl) (by rfl) HA.out ?_
        rintro _ w5 ⟨⟨a5, m5, d5, rfl⟩, k1, k2, k3, HW⟩
        refine hK.out _ _ trivial (fun hS => ?_)
        clear hK K
        try simp only [Act.put, List.setIfInBounds_toArray]
        refine wpAnyH_take (i := 7) (v := ?_) rfl (by kernel_rfl) (by kernel_rfl) (by kernel_rfl) (fun _ _ _ h => h) (Or.inl ⟨by rfl, ?_⟩) hS ?_
        rotate_left
        · (intro w hSw; (try dsimp only at hSw); go_simp; try (with_reducible rfl))
        try simp only [Act.put]
        refine wpAnyH_ready (rs := [8]) (by kernel_rfl) (by simp) ?_
        refine (AllReadyH.cons rfl (fun K hK => ?_) AllReadyH.nil)
        go_simp
        refine hK.out _ _ trivial (fun hS => ?_)
        clear hK K
        try simp only [Act.put, List.setIfInBounds_toArray, List.set_cons_zero, List.set_cons_succ]
        refine wpAnyH_done (by kernel_rfl) ?_ _
        have HTk := Hid.mk' (take_any [44] (by decide) (by decide) HW.out.choose_spec.1.1)
        go_wp2_with fail
        refine (HTk.out).mono ?_
        rintro e w7 ⟨hf7, ⟨n7, rfl, hp7⟩ | ⟨R2, n7, rfl, hp7⟩⟩
        · have hfin := Lst.done (T := 81) hpw HW.out hf7 hp7 (Nat.le_refl _) hSh
          rw [n7] at HQ
          have HF := Hid.mk' hfin
          have HR := Hid.mk' (HR0.out.trans HQ.out)
          clear hfin hf7 hp7 n7 HTk HQ
          go_wp2
          go_ret
          rw [HR.out]
          exact HF.out
        · have hst := Lst.tick hpw HW.out hf7 hp7 (Z.tk_le n7) hSh
          have hR2 := Z.tk_le n7
          rw [n7] at HQ
          have HF := Hid.mk' hst
          have HR := Hid.mk' (HR0.out.trans HQ.out)
          have hlt7 := Z.tk_lt (by decide) n7
          clear hst hf7 hp7 n7 HTk HQ
          go_wp2
          go_roundg c2
          case measure => omega
          case rel => exact ⟨R2, m1, _, _, HF, HR, by omega, by omega⟩
      · go_simp
        refine hK.out _ _ trivial (fun hS => ?_)
        clear hK K
        try simp only [Act.put, List.setIfInBounds_toArray, List.set_cons_zero, List.set_cons_succ]
        refine wpAnyH_ready (rs := [3, 5]) (by kernel_rfl) (by simp) ?_
        refine (AllReadyH.cons rfl (fun K hK => ?_) (AllReadyH.cons rfl (fun K hK => ?_) AllReadyH.nil))
        · go_simp
          refine hK.out _ _ trivial (fun hS => ?_)
          clear hK K
          try simp only [Act.put, List.setIfInBounds_toArray, List.set_cons_zero, List.set_cons_succ]
          refine wpAnyH_ready (rs := [5]) (by kernel_rfl) (by simp) ?_
          refine (AllReadyH.cons rfl (fun K hK => ?_) AllReadyH.nil)
          go_simp
          refine hK.out _ _ trivial (fun hS => ?_)
          clear hK K
          try simp only [Act.put, List.setIfInBounds_toArray, List.set_cons_zero, List.set_cons_succ]
          refine wpAnyH_ready (rs := [6]) (by kernel_rfl) (by simp) ?_
          refine (AllReadyH.cons rfl (fun K hK => ?_) AllReadyH.nil)
          refine step_append_ex (by rfl) _ _ 23 (by rfl) v (.slice (some ⟨w2.heap.size, 0, none⟩) 1 1) (by rfl) (by rfl) HA.out ?_
          rintro _ w5 ⟨⟨a5, m5, d5, rfl⟩, k1, k2, k3, HW⟩
          refine hK.out _ _ trivial (fun hS => ?_)
          clear hK K
          try simp only [Act.put, List.setIfInBounds_toArray]
          refine wpAnyH_take (i := 7) (v := ?_) rfl (by kernel_rfl) (by kernel_rfl) (by kernel_rfl) (fun _ _ _ h => h) (Or.inl ⟨by rfl, ?_⟩) hS ?_
          rotate_left
          · (intro w hSw; (try dsimp only at hSw); go_simp; try (with_reducible rfl))
          try simp only [Act.put]
          refine wpAnyH_ready (rs := [8]) (by kernel_rfl) (by simp) ?_
          refine (AllReadyH.cons rfl (fun K hK => ?_) AllReadyH.nil)
          go_simp
          refine hK.out _ _ trivial (fun hS => ?_)
          clear hK K
          try simp only [Act.put, List.setIfInBounds_toArray, List.set_cons_zero, List.set_cons_succ]
          refine wpAnyH_done (by kernel_rfl) ?_ _
          have HTk := Hid.mk' (take_any [44] (by decide) (by decide) HW.out.choose_spec.1.1)
          go_wp2_with fail
          refine (HTk.out).mono ?_
          rintro e w7 ⟨hf7, ⟨n7, rfl, hp7⟩ | ⟨R2, n7, rfl, hp7⟩⟩
          · have hfin := Lst.done (T := 81) hpw HW.out hf7 hp7 (Nat.le_refl _) hSh
            rw [n7] at HQ
            have HF := Hid.mk' hfin
            have HR := Hid.mk' (HR0.out.trans HQ.out)
            clear hfin hf7 hp7 n7 HTk HQ
            go_wp2
            go_ret
            rw [HR.out]
            exact HF.out
          · have hst := Lst.tick hpw HW.out hf7 hp7 (Z.tk_le n7) hSh
            have hR2 := Z.tk_le n7
            rw [n7] at HQ
            have HF := Hid.mk' hst
            have HR := Hid.mk' (HR0.out.trans HQ.out)
            have hlt7 := Z.tk_lt (by decide) n7
            clear hst hf7 hp7 n7 HTk HQ
            go_wp2
            go_roundg c2
            case measure => omega
            case rel => exact ⟨R2, m1, _, _, HF, HR, by omega, by omega⟩
        · go_simp
          refine hK.out _ _ trivial (fun hS => ?_)
          clear hK K
          try simp only [Act.put, List.setIfInBounds_toArray, List.set_cons_zero, List.set_cons_succ]
          refine wpAnyH_ready (rs := [3]) (by kernel_rfl) (by simp) ?_
          refine (AllReadyH.cons rfl (fun K hK => ?_) AllReadyH.nil)
          go_simp
          refine hK.out _ _ trivial (fun hS => ?_)
          clear hK K
          try simp only [Act.put, List.setIfInBounds_toArray, List.set_cons_zero, List.set_cons_succ]
          refine wpAnyH_ready (rs := [6]) (by kernel_rfl) (by simp) ?_
          refine (AllReadyH.cons rfl (fun K hK => ?_) AllReadyH.nil)
          refine step_append_ex (by rfl) _ _ 23 (by rfl) v (.slice (some ⟨w2.heap.size, 0, none⟩) 1 1) (by rfl) (by rfl) HA.out ?_
          rintro _ w5 ⟨⟨a5, m5, d5, rfl⟩, k1, k2, k3, HW⟩
          refine hK.out _ _ trivial (fun hS => ?_)
          clear hK K
          try simp only [Act.put, List.setIfInBounds_toArray]
          refine wpAnyH_take (i := 7) (v := ?_) rfl (by kernel_rfl) (by kernel_rfl) (by kernel_rfl) (fun _ _ _ h => h) (Or.inl ⟨by rfl, ?_⟩) hS ?_
          rotate_left
          · (intro w hSw; (try dsimp only at hSw); go_simp; try (with_reducible rfl))
          try simp only [Act.put]
          refine wpAnyH_ready (rs := [8]) (by kernel_rfl) (by simp) ?_
          refine (AllReadyH.cons rfl (fun K hK => ?_) AllReadyH.nil)
          go_simp
          refine hK.out _ _ trivial (fun hS => ?_)
          clear hK K
          try simp only [Act.put, List.setIfInBounds_toArray, List.set_cons_zero, List.set_cons_succ]
          refine wpAnyH_done (by kernel_rfl) ?_ _
          have HTk := Hid.mk' (take_any [44] (by decide) (by decide) HW.out.choose_spec.1.1)
          go_wp2_with fail
          refine (HTk.out).mono ?_
          rintro e w7 ⟨hf7, ⟨n7, rfl, hp7⟩ | ⟨R2, n7, rfl, hp7⟩⟩
          · have hfin := Lst.done (T := 81) hpw HW.out hf7 hp7 (Nat.le_refl _) hSh
            rw [n7] at HQ
            have HF := Hid.mk' hfin
            have HR := Hid.mk' (HR0.out.trans HQ.out)
            clear hfin hf7 hp7 n7 HTk HQ
            go_wp2
            go_ret
            rw [HR.out]
            exact HF.out
          · have hst := Lst.tick hpw HW.out hf7 hp7 (Z.tk_le n7) hSh
            have hR2 := Z.tk_le n7
            rw [n7] at HQ
            have HF := Hid.mk' hst
            have HR := Hid.mk' (HR0.out.trans HQ.out)
            have hlt7 := Z.tk_lt (by decide) n7
            clear hst hf7 hp7 n7 HTk HQ
            go_wp2
            go_roundg c2
            case measure => omega
            case rel => exact ⟨R2, m1, _, _, HF, HR, by omega, by omega⟩

theorem info_keys : (Tryz.prog.info? 87).map (fun i => (i.zero, i.size, i.bytes)) = some (some (.agg #[.int .i64 0, .int .i64 0, .int .i64 0, .string ⟨#[]⟩, .string ⟨#[]⟩, .string ⟨#[]⟩, .slice none 0 0, .bool false]), 8, 104) := by kernel_rfl
set_option maxRecDepth 100000 in
set_option maxHeartbeats 2000000 in
theorem list_keys {α : Type} {Sh : Shows α} (hSh : ShOk Sh 8) {F : Nat} (hcf : ∀ (args : Array Value) (w : World), (callFunc F args).run Tryz.prog w = .ok (.enter F args) w) {f : List L.Tok → Int → Z.Rs α} {d : Int} {B : Nat} (HF : ReadsI Sh F f d [.int .i64 0, .int .i64 0, .int .i64 0, .string ⟨#[]⟩, .string ⟨#[]⟩, .string ⟨#[]⟩, .slice none 0 0, .bool false] B)
    {w : World} {p : Nat} {R : List L.Tok} {m : Int} (h : PS w p R d m) (hB : R.length ≤ B) (hR : R.length ≤ 500000) (hle : ∀ R m x R1 m1, f R m = some (x, R1, m1) → R1.length < R.length) {g o : Nat} {T0 : TypeId} {cur : List Value} (he : EL w g o T0 cur [.slice none 0 0]) :
    Calls Tryz.prog 155 #[.pointer (some ⟨p, 0, none⟩), .pointer (some ⟨g, o, none⟩), .func (.func F) #[.pointer (some ⟨p, 0, none⟩)] #[]] w (OutI (ShRow Sh 87 8) w p g o T0 cur d (Z.list f R m)) := by
  have HL := Hid.mk' (Lst.start (Sh := Sh) (T := 87) (sz := 8) h he (by omega))
  obtain ⟨r, hr⟩ : ∃ r, Z.list f R m = r := ⟨_, rfl⟩
  have HR0 : Hid (r = Z.listF f (R.length + 1) R m []) := hr.symm
  rw [hr]
  have hgw := he.lt
  have hpw := h.lt
  have hne := he.ne h
  clear h he hr
  go_enter Tryz.func155, Tryz.ntmps155
  go_wp2
  go_loopg [7] (R.length + 1) (fun c' _ wr => ∃ (R' : List L.Tok) (m' : Int) (l : List α) (v : Value), Hid (Lst Sh 87 8 w wr p R' d m' g o T0 cur l v) ∧ Hid (r = Z.listF f c' R' m' l) ∧ R'.length < c' ∧ R'.length ≤ R.length)
  case atStart => exact ⟨R, m, [], _, HL, HR0, by omega, Nat.le_refl _⟩
  case round =>
    clear HL HR0
    obtain ⟨R', m', l, v, HL, HR0, hc, hRR⟩ := hrel
    obtain ⟨c2, rfl⟩ : ∃ c2, gk = c2 + 1 := ⟨gk - 1, by omega⟩
    have h7 := HL.out.seven
    have hEx := Hid.mk' (EL.fresh wr 87 [.int .i64 0, .int .i64 0, .int .i64 0, .string ⟨#[]⟩, .string ⟨#[]⟩, .string ⟨#[]⟩, .slice none 0 0, .bool false] h7 (by decide) (by decide))
    have HI := Hid.mk' (HF ((HL.out.choose_spec.1.keep (Fr.of_alloc wr (.cells [.int .i64 0, .int .i64 0, .int .i64 0, .string ⟨#[]⟩, .string ⟨#[]⟩, .string ⟨#[]⟩, .slice none 0 0, .bool false].toArray 87))).1) (by omega) hEx.out)
    go_wp2_with fail
    refine (HI.out).mono ?_
    intro e w2 h2
    have hQ := Z.listF_step f c2 R' m' l
    obtain ⟨hf2, h2⟩ := h2
    cases hfr : f R' m' with
    | none =>
      rw [hfr] at h2 hQ
      obtain ⟨rfl, hpf⟩ := h2
      have HR := Hid.mk' (HR0.out.trans hQ)
      have HF2 := Hid.mk' (HL.out.frame hf2)
      have HPF := Hid.mk' hpf
      clear hf2 hpf hQ hfr HI
      go_wp2
      go_ret
      rw [HR.out]
      exact ⟨HF2.out, rfl, HPF.out⟩
    | some q =>
      obtain ⟨x, R1, m1⟩ := q
      have hlt1 := hle _ _ _ _ _ hfr
      rw [hfr] at h2 hQ
      obtain ⟨rfl, hp2, cs, he2, hs2⟩ := h2
      have HQ := Hid.mk' hQ
      have hcs := hSh.len hs2
      obtain ⟨b0, b1, b2, b3, b4, b5, b6, b7, rfl⟩ := form8 hcs
      obtain ⟨E2, hput⟩ := Lst.put hSh Tryz.underlying27 info_keys rfl (by decide) HL.out hgw hpw (Fr.of_alloc wr (.cells [.int .i64 0, .int .i64 0, .int .i64 0, .string ⟨#[]⟩, .string ⟨#[]⟩, .string ⟨#[]⟩, .slice none 0 0, .bool false].toArray 87)) (Nat.le_refl _) hf2 hp2 hs2 hEx.out hlt1
      have HA := Hid.mk' hput
      have z1 : w2.cell? ⟨g, o, none⟩ = some v := E2.cell (j := 0) rfl
      have zg := E2.lt
      have zf := E2.fz
      have zx := he2.lt
      have x0 : w2.cell? ⟨wr.heap.size, 0, none⟩ = some (b0) := by have := he2.cell (j := 0) rfl; rwa [Nat.zero_add] at this
      have x1 : w2.cell? ⟨wr.heap.size, 1, none⟩ = some (b1) := by have := he2.cell (j := 1) rfl; rwa [Nat.zero_add] at this
      have x2 : w2.cell? ⟨wr.heap.size, 2, none⟩ = some (b2) := by have := he2.cell (j := 2) rfl; rwa [Nat.zero_add] at this
      have x3 : w2.cell? ⟨wr.heap.size, 3, none⟩ = some (b3) := by have := he2.cell (j := 3) rfl; rwa [Nat.zero_add] at this
      have x4 : w2.cell? ⟨wr.heap.size, 4, none⟩ = some (b4) := by have := he2.cell (j := 4) rfl; rwa [Nat.zero_add] at this
      have x5 : w2.cell? ⟨wr.heap.size, 5, none⟩ = some (b5) := by have := he2.cell (j := 5) rfl; rwa [Nat.zero_add] at this
      have x6 : w2.cell? ⟨wr.heap.size, 6, none⟩ = some (b6) := by have := he2.cell (j := 6) rfl; rwa [Nat.zero_add] at this
      have x7 : w2.cell? ⟨wr.heap.size, 7, none⟩ = some (b7) := by have := he2.cell (j := 7) rfl; rwa [Nat.zero_add] at this
      clear hput E2 hf2 hp2 he2 hs2 hQ hfr HI hcs
      go_wp2
      refine wp_region_held_drew (S := (fun _ : World => True)) (by kernel_rfl) (trivial) (fun hS => ?_)
      refine wpAnyH_take (i := 0) (v := ?_) rfl (by kernel_rfl) (by kernel_rfl) (by kernel_rfl) (fun _ _ _ h => h) (Or.inl ⟨by rfl, ?_⟩) hS ?_
      rotate_left
      · (intro w hSw; (try dsimp only at hSw); go_simp; try (with_reducible rfl))
      try simp only [Act.put, List.setIfInBounds_toArray]
      refine wpAnyH_take (i := 1) (v := ?_) rfl (by kernel_rfl) (by kernel_rfl) (by kernel_rfl) (fun _ _ _ h => h) (Or.inl ⟨by rfl, ?_⟩) hS ?_
      rotate_left
      · (intro w hSw; (try dsimp only at hSw); go_simp; try (with_reducible rfl))
      try simp only [Act.put]
      refine wpAnyH_take (i := 2) (v := ?_) rfl (by kernel_rfl) (by kernel_rfl) (by kernel_rfl) (fun _ _ _ h => h) (Or.inl ⟨by rfl, ?_⟩) hS ?_
      rotate_left
      · (intro w hSw; (try dsimp only at hSw); go_simp; try (with_reducible rfl))
      try simp only [Act.put]
      refine wpAnyH_ready (rs := [3, 4]) (by kernel_rfl) (by simp) ?_
      refine (AllReadyH.cons rfl (fun K hK => ?_) (AllReadyH.cons rfl (fun K hK => ?_) AllReadyH.nil))
      · go_simp
        refine hK.out _ _ trivial (fun hS => ?_)
        clear hK K
        try simp only [Act.put, List.setIfInBounds_toArray, List.set_cons_zero, List.set_cons_succ]
        refine wpAnyH_ready (rs := [4]) (by kernel_rfl) (by simp) ?_
        refine (AllReadyH.cons rfl (fun K hK => ?_) AllReadyH.nil)
        go_simp
        refine hK.out _ _ trivial (fun hS => ?_)
        clear hK K
        try simp only [Act.put, List.setIfInBounds_toArray, List.set_cons_zero, List.set_cons_succ]
        refine wpAnyH_ready (rs := [5]) (by kernel_rfl) (by simp) ?_
        refine (AllReadyH.cons rfl (fun K hK => ?_) AllReadyH.nil)
        go_simp
        refine hK.out _ _ trivial (fun hS => ?_)
        clear hK K
        try simp only [Act.put, List.setIfInBounds_toArray, List.set_cons_zero, List.set_cons_succ]
        refine wpAnyH_ready (rs := [6]) (by kernel_rfl) (by simp) ?_
        refine (AllReadyH.cons rfl (fun K hK => ?_) AllReadyH.nil)
        refine step_append_ex (by rfl) _ _ 27 (by rfl) v (.slice (some ⟨w2.heap.size, 0, none⟩) 1 1) (by rfl) (by rfl) HA.out ?_
        rintro _ w5 ⟨⟨a5, m5, d5, rfl⟩, k1, k2, k3, HW⟩
        refine hK.out _ _ trivial (fun hS => ?_)
        clear hK K
        try simp only [Act.put, List.setIfInBounds_toArray]
        refine wpAnyH_take (i := 7) (v := ?_) rfl (by kernel_rfl) (by kernel_rfl) (by kernel_rfl) (fun _ _ _ h => h) (Or.inl ⟨by rfl, ?_⟩) hS ?_
        rotate_left
        · (intro w hSw; (try dsimp only at hSw); go_simp; try (with_reducible rfl))
        try simp only [Act.put]
        refine wpAnyH_ready (rs := [8]) (by kernel_rfl) (by simp) ?_
        refine (AllReadyH.cons rfl (fun K hK => ?_) AllReadyH.nil)
        go_simp
        refine hK.out _ _ trivial (fun hS => ?_)
        clear hK K
        try simp only [Act.put, List.setIfInBounds_toArray, List.set_cons_zero, List.set_cons_succ]
        refine wpAnyH_done (by kernel_rfl) ?_ _
        have HTk := Hid.mk' (take_any [44] (by decide) (by decide) HW.out.choose_spec.1.1)
        go_wp2_with fail
        refine (HTk.out).mono ?_
        rintro e w7 ⟨hf7, ⟨n7, rfl, hp7⟩ | ⟨R2, n7, rfl, hp7⟩⟩
        · have hfin := Lst.done (T := 87) hpw HW.out hf7 hp7 (Nat.le_refl _) hSh
          rw [n7] at HQ
          have HF := Hid.mk' hfin
          have HR := Hid.mk' (HR0.out.trans HQ.out)
          clear hfin hf7 hp7 n7 HTk HQ
          go_wp2
          go_ret
          rw [HR.out]
          exact HF.out
        · have hst := Lst.tick hpw HW.out hf7 hp7 (Z.tk_le n7) hSh
          have hR2 := Z.tk_le n7
          rw [n7] at HQ
          have HF := Hid.mk' hst
          have HR := Hid.mk' (HR0.out.trans HQ.out)
          have hlt7 := Z.tk_lt (by decide) n7
          clear hst hf7 hp7 n7 HTk HQ
          go_wp2
          go_roundg c2
          case measure => omega
          case rel => exact ⟨R2, m1, _, _, HF, HR, by omega, by omega⟩
      · go_simp
        refine hK.out _ _ trivial (fun hS => ?_)
        clear hK K
        try simp only [Act.put, List.setIfInBounds_toArray, List.set_cons_zero, List.set_cons_succ]
        refine wpAnyH_ready (rs := [3, 5]) (by kernel_rfl) (by simp) ?_
        refine (AllReadyH.cons rfl (fun K hK => ?_) (AllReadyH.cons rfl (fun K hK => ?_) AllReadyH.nil))
        · go_simp
          refine hK.out _ _ trivial (fun hS => ?_)
          clear hK K
          try simp only [Act.put, List.setIfInBounds_toArray, List.set_cons_zero, List.set_cons_succ]
          refine wpAnyH_ready (rs := [5]) (by kernel_rfl) (by simp) ?_
          refine (AllReadyH.cons rfl (fun K hK => ?_) AllReadyH.nil)
          go_simp
          refine hK.out _ _ trivial (fun hS => ?_)
          clear hK K
          try simp only [Act.put, List.setIfInBounds_toArray, List.set_cons_zero, List.set_cons_succ]
          refine wpAnyH_ready (rs := [6]) (by kernel_rfl) (by simp) ?_
          refine (AllReadyH.cons rfl (fun K hK => ?_) AllReadyH.nil)
          refine step_append_ex (by rfl) _ _ 27 (by rfl) v (.slice (some ⟨w2.heap.size, 0, none⟩) 1 1) (by rfl) (by rfl) HA.out ?_
          rintro _ w5 ⟨⟨a5, m5, d5, rfl⟩, k1, k2, k3, HW⟩
          refine hK.out _ _ trivial (fun hS => ?_)
          clear hK K
          try simp only [Act.put, List.setIfInBounds_toArray]
          refine wpAnyH_take (i := 7) (v := ?_) rfl (by kernel_rfl) (by kernel_rfl) (by kernel_rfl) (fun _ _ _ h => h) (Or.inl ⟨by rfl, ?_⟩) hS ?_
          rotate_left
          · (intro w hSw; (try dsimp only at hSw); go_simp; try (with_reducible rfl))
          try simp only [Act.put]
          refine wpAnyH_ready (rs := [8]) (by kernel_rfl) (by simp) ?_
          refine (AllReadyH.cons rfl (fun K hK => ?_) AllReadyH.nil)
          go_simp
          refine hK.out _ _ trivial (fun hS => ?_)
          clear hK K
          try simp only [Act.put, List.setIfInBounds_toArray, List.set_cons_zero, List.set_cons_succ]
          refine wpAnyH_done (by kernel_rfl) ?_ _
          have HTk := Hid.mk' (take_any [44] (by decide) (by decide) HW.out.choose_spec.1.1)
          go_wp2_with fail
          refine (HTk.out).mono ?_
          rintro e w7 ⟨hf7, ⟨n7, rfl, hp7⟩ | ⟨R2, n7, rfl, hp7⟩⟩
          · have hfin := Lst.done (T := 87) hpw HW.out hf7 hp7 (Nat.le_refl _) hSh
            rw [n7] at HQ
            have HF := Hid.mk' hfin
            have HR := Hid.mk' (HR0.out.trans HQ.out)
            clear hfin hf7 hp7 n7 HTk HQ
            go_wp2
            go_ret
            rw [HR.out]
            exact HF.out
          · have hst := Lst.tick hpw HW.out hf7 hp7 (Z.tk_le n7) hSh
            have hR2 := Z.tk_le n7
            rw [n7] at HQ
            have HF := Hid.mk' hst
            have HR := Hid.mk' (HR0.out.trans HQ.out)
            have hlt7 := Z.tk_lt (by decide) n7
            clear hst hf7 hp7 n7 HTk HQ
            go_wp2
            go_roundg c2
            case measure => omega
            case rel => exact ⟨R2, m1, _, _, HF, HR, by omega, by omega⟩
        · go_simp
          refine hK.out _ _ trivial (fun hS => ?_)
          clear hK K
          try simp only [Act.put, List.setIfInBounds_toArray, List.set_cons_zero, List.set_cons_succ]
          refine wpAnyH_ready (rs := [3]) (by kernel_rfl) (by simp) ?_
          refine (AllReadyH.cons rfl (fun K hK => ?_) AllReadyH.nil)
          go_simp
          refine hK.out _ _ trivial (fun hS => ?_)
          clear hK K
          try simp only [Act.put, List.setIfInBounds_toArray, List.set_cons_zero, List.set_cons_succ]
          refine wpAnyH_ready (rs := [6]) (by kernel_rfl) (by simp) ?_
          refine (AllReadyH.cons rfl (fun K hK => ?_) AllReadyH.nil)
          refine step_append_ex (by rfl) _ _ 27 (by rfl) v (.slice (some ⟨w2.heap.size, 0, none⟩) 1 1) (by rfl) (by rfl) HA.out ?_
          rintro _ w5 ⟨⟨a5, m5, d5, rfl⟩, k1, k2, k3, HW⟩
          refine hK.out _ _ trivial (fun hS => ?_)
          clear hK K
          try simp only [Act.put, List.setIfInBounds_toArray]
          refine wpAnyH_take (i := 7) (v := ?_) rfl (by kernel_rfl) (by kernel_rfl) (by kernel_rfl) (fun _ _ _ h => h) (Or.inl ⟨by rfl, ?_⟩) hS ?_
          rotate_left
          · (intro w hSw; (try dsimp only at hSw); go_simp; try (with_reducible rfl))
          try simp only [Act.put]
          refine wpAnyH_ready (rs := [8]) (by kernel_rfl) (by simp) ?_
          refine (AllReadyH.cons rfl (fun K hK => ?_) AllReadyH.nil)
          go_simp
          refine hK.out _ _ trivial (fun hS => ?_)
          clear hK K
          try simp only [Act.put, List.setIfInBounds_toArray, List.set_cons_zero, List.set_cons_succ]
          refine wpAnyH_done (by kernel_rfl) ?_ _
          have HTk := Hid.mk' (take_any [44] (by decide) (by decide) HW.out.choose_spec.1.1)
          go_wp2_with fail
          refine (HTk.out).mono ?_
          rintro e w7 ⟨hf7, ⟨n7, rfl, hp7⟩ | ⟨R2, n7, rfl, hp7⟩⟩
          · have hfin := Lst.done (T := 87) hpw HW.out hf7 hp7 (Nat.le_refl _) hSh
            rw [n7] at HQ
            have HF := Hid.mk' hfin
            have HR := Hid.mk' (HR0.out.trans HQ.out)
            clear hfin hf7 hp7 n7 HTk HQ
            go_wp2
            go_ret
            rw [HR.out]
            exact HF.out
          · have hst := Lst.tick hpw HW.out hf7 hp7 (Z.tk_le n7) hSh
            have hR2 := Z.tk_le n7
            rw [n7] at HQ
            have HF := Hid.mk' hst
            have HR := Hid.mk' (HR0.out.trans HQ.out)
            have hlt7 := Z.tk_lt (by decide) n7
            clear hst hf7 hp7 n7 HTk HQ
            go_wp2
            go_roundg c2
            case measure => omega
            case rel => exact ⟨R2, m1, _, _, HF, HR, by omega, by omega⟩

end Go.Proofs.YtmepkmhfjgocgaaGreatDoor
