/-
  A part of the proof.
-/
import Derived.Test.YtjimhikfmccicaaGreatMg36
import Derived.Deep.CutRange
import Derived.Laws.MakeOwn
namespace Go.Proofs.YtjimhikfmccicaaGreat
open Go.RowKit Go.Maps
def J61 (w : World) (fb pk B : Nat) (S N : List Nat) (ps : List Int) (n E : Nat) (a' : Act) (wx : World) : Prop :=
 ∃ (i : Nat) (q : Int) (v : Value) (u9 u10 u11 u12 u13 u14 u15 u16 u17 u18 u19 u20 u21 u22 u23 u24 u25 u26 u27 u28 u29 u30 u31 u32 u33 u34 u35 u36 u37 u38 u39 u40 u41 u42 u43 u44 u45 u46 u47 u48 u49 u50 u51 u52 u53 u54 u55 u56 u57 u58 u59 u60 u61 u62 u63 u64 u65 u66 u67 u68 u69 u70 u71 u72 u73 u74 u75 u76 u77 u78 u79 u80 u81 : Value), a' = { tmps := #[.pointer (some ⟨fb, 0, none⟩), .pointer (some ⟨pk, 0, none⟩), undef, undef, .slice none 0 0, .int .i64 (n : Nat), .int .i64 (E : Nat), v, (.int .i64 q), u9, u10, u11, u12, u13, u14, u15, u16, u17, u18, u19, u20, u21, u22, u23, u24, u25, u26, u27, u28, u29, u30, u31, u32, u33, u34, u35, u36, u37, u38, u39, u40, u41, u42, u43, u44, u45, u46, u47, u48, u49, u50, u51, u52, u53, u54, u55, u56, u57, u58, u59, u60, u61, u62, u63, u64, u65, u66, u67, u68, u69, u70, u71, u72, u73, u74, u75, u76, u77, u78, u79, u80, u81], defers := [] } /\
  q = 64 * (i : Int) /\ 64 * i < E + 64 /\ Rw wx v (M.secs S N ps i).1 /\ (∀ k, v.ownBlock = some k -> w.heap.size <= k) /\ Picks wx pk B (M.secs S N ps i).2 /\ Fr [pk] w wx
def mu61 (E : Nat) (a' : Act) (_ : World) : Nat := E + 64 - (intOf (a'.tmps.getD 8 undef)).toNat
theorem own_is {g n c k : Nat} (h : (Value.slice (some ⟨g, 0, none⟩) n c).ownBlock = some k) : g = k := by simpa [Value.ownBlock] using h
theorem Rw.lt {w : World} {v : Value} {l : List Nat} (h : Rw w v l) : ∀ k, v.ownBlock = some k -> k < w.heap.size := by
 intro k hk
 rcases h.1.2 with ⟨rfl, _⟩ | ⟨g, cap, cur, rfl, _, hg, _⟩
 ·cases hk
 ·have := own_is hk
  have := (Array.getElem?_eq_some_iff.1 hg).1
  omega
theorem row_on {w w' : World} {g : Nat} {o : Obj} (hb : Below w.heap.size w w') (h : w.heap[g]? = some o) : w'.heap[g]? = some o := (hb.block g (Array.getElem?_eq_some_iff.1 h).1).trans h
theorem row_lt {w : World} {g : Nat} {o : Obj} (h : w.heap[g]? = some o) : g < w.heap.size := (Array.getElem?_eq_some_iff.1 h).1
theorem Fr.sees1 {fs : List Nat} {w w' : World} (h : Fr fs w w') {v : Value} {l : List Nat} (hs : Sees w v l) (hn : ∀ a n c, v = .slice (some a) n c -> 1 <= n -> a.block ∉ fs) : Sees w' v l := by
 obtain ⟨⟨a, cap, rfl, hc⟩, hm⟩ := hs
 refine ⟨⟨a, cap, rfl, fun h1 => ?_⟩, hm⟩
 obtain ⟨b, o, rfl, hj⟩ := hc h1
 exact ⟨b, o, rfl, fun j hlt => h.cell (hj j hlt) (hn ⟨b, o, none⟩ _ _ rfl h1)⟩
theorem wp_alloc124' {o : Oper} {a : Act} {w : World} {K : Act -> World -> Prop} {Q : Exit -> Act -> World -> Prop} (ho : o.op = .alloc 142)
  (h : ∀ g w', w'.heap[g]? = some (.cells Z64 142 (0, 0)) -> w.heap.size <= g -> Below w.heap.size w w' -> K (a.put o.dst (.pointer (some ⟨g, 0, none⟩))) w') : o.wp Tryz.prog a w K Q :=
 wp_alloc124 ho (h _ _ (heap_alloc_new w _) (Nat.le_refl _) ((Below.refl _ _).alloc (Nat.le_refl _) _))
theorem make_found (w : World) (c : Nat) (hc : c <= 5000000) : ∃ w', (Instr.makeSlice 54 (.int .i64 0) (.int .i64 (c : Int))).run Tryz.prog w = .ok (.slice (some ⟨w.heap.size, 0, none⟩) 0 c) w' /\ Rw w' (.slice (some ⟨w.heap.size, 0, none⟩) 0 c) [] /\ Below w.heap.size w w' := by
 obtain ⟨i0, hi, hz0, hz1, hz2⟩ := info_parts Tryz.info5
 obtain ⟨w', hr, ho, hg⟩ := run_make_own (P := Tryz.prog) w 0 54 5 i0 _ 1 Tryz.underlying54 hi hz0 hz1 .i64 .i64 c (by rw [hz2]; omega) (by unfold maxLen; omega) (Nat.zero_le _)
 exact ⟨w', hr, ⟨ho, by simp⟩, (Below.refl _ _).grown hg (Nat.le_refl _) (fun k hk => by cases hk)⟩
set_option maxRecDepth 100000 in
set_option maxHeartbeats 2000000 in
theorem crash_any (fb pk B : Nat) (a1 a2 : Option Addr) (c1 c2 : Nat) (S N : List Nat) (ps : List Int) (w : World) (d1 : w.cell? ⟨fb, 1, none⟩ = some (.slice a1 S.length c1)) (d2 : w.cell? ⟨fb, 2, none⟩ = some (.slice a2 N.length c2))
  (hS : Sees w (.slice a1 S.length c1) S) (hN : Sees w (.slice a2 N.length c2) N) (hc1 : S.length <= c1) (hc2 : N.length <= c2) (hm1 : c1 <= 9223372036854775807) (hm2 : c2 <= 9223372036854775807) (hl1 : S.length <= 4194304) (hl2 : N.length <= 4194304)
  (hP : Picks w pk B ps) (hPB : M.PB ps) (hfp : fb ≠ pk) (hB : B <= w.heap.size) (ha1 : ∀ x, a1 = some x -> 1 <= S.length -> x.block ≠ pk) (ha2 : ∀ x, a2 = some x -> 1 <= N.length -> x.block ≠ pk) :
  Calls Tryz.prog 51 #[.pointer (some ⟨fb, 0, none⟩), .pointer (some ⟨pk, 0, none⟩)] w fun e w' => ∃ v', e = .returned v' /\ Rw w' v' (M.crash S N ps).1 /\ (∀ k, v'.ownBlock = some k -> w.heap.size <= k) /\ Picks w' pk B (M.crash S N ps).2 /\ Fr [pk] w w' := by
 have hpk : pk < w.heap.size := by obtain ⟨_, h, _⟩ := hP; exact World.block_lt_of_cell? _ _ h
 obtain ⟨E, hE⟩ : ∃ E, E = max S.length N.length := ⟨_, rfl⟩
 obtain ⟨⟨n, ps1⟩, hlen⟩ : ∃ q, q = M.len1 S N ps := ⟨_, rfl⟩
 have hnl : n <= 4194304 := by
  have : (M.len1 S N ps).1 <= 4194304 := by
   unfold M.len1
   split
   ·exact hl1
   ·simp only; split <;> assumption
  rw [<- hlen] at this; exact this
 have hcr : M.crash S N ps = (M.sz (M.secs S N ps1 (M.cnt S N)).1 n, (M.secs S N ps1 (M.cnt S N)).2) := by unfold M.crash; rw [<- hlen]
 rw [hcr]
 have hPB1 : M.PB ps1 := by have := M.len1_pb S N hPB; rw [<- hlen] at this; exact this
 have hE1 : E <= 4194304 := by omega
 have HE := Hid.mk' hE
 clear hE
 have HP := Hid.mk' hP
 have HS := Hid.mk' hS
 have HN := Hid.mk' hN
 have HPB := Hid.mk' hPB1
 have HA1 := Hid.mk' ha1
 have HA2 := Hid.mk' ha2
 clear hP hS hN hPB hPB1 hcr ha1 ha2
 go_enter Tryz.func51, Tryz.ntmps51
 go_wp2
 refine wp_scope_behind5 0 (J61 w fb pk B S N ps1 n E) (mu61 E) rfl rfl rfl rfl rfl ?_ ?_
 ·have hlen' := hlen
  have hE := HE.out
  clear HE
  unfold M.len1 at hlen'
  have HMK : Hid (∀ w1 : World, ∃ w', (Instr.makeSlice 54 (.int .i64 0) (.int .i64 ((E : Int) + 64))).run Tryz.prog w1 = .ok (.slice (some ⟨w1.heap.size, 0, none⟩) 0 (E + 64)) w' /\ Rw w' (.slice (some ⟨w1.heap.size, 0, none⟩) 0 (E + 64)) [] /\ Below w1.heap.size w1 w') := fun w1 => make_found w1 (E + 64) (by omega)
  by_cases heq : N.length = S.length
  ·rw [if_pos heq] at hlen'
   obtain ⟨rfl, rfl⟩ := by simpa using hlen'
   have t1 : ((N.length : Int) != (S.length : Int)) = false := by simp [heq]
   obtain rfl : E = S.length := by omega
   have hlt : ¬ S.length < N.length := by omega
   clear heq hlen hlen' hE
   go_wp2_with fail
   go_quiet (fail)
   obtain ⟨w2, hmk, hrw, hbw⟩ := HMK.out (w.drewN nq)
   have hz : (w.drewN nq).heap.size = w.heap.size := rfl
   rw [hz] at hmk hrw hbw
   have hbw2 : Below w.heap.size w w2 := (below_drewN (Below.refl _ _) nq).trans hbw
   clear hbw HMK
   go_wp2
   exact ⟨0, _, _, _, _, _, _, _, _, _, _, _, _, _, _, _, _, _, _, _, _, _, _, _, _, _, _, _, _, _, _, _, _, _, _, _, _, _, _, _, _, _, _, _, _, _, _, _, _, _, _, _, _, _, _, _, _, _, _, _, _, _, _, _, _, _, _, _, _, _, _, _, _, _, _, _, rfl, by omega, by omega, hrw, fun k hk => by (have := own_is hk); omega, HP.out.on hbw2, Fr.of_below hbw2⟩
  ·rw [if_neg heq] at hlen'
   have t1 : ((N.length : Int) != (S.length : Int)) = true := by simp; omega
   have HNx := Hid.mk' (next_any pk B ps w HP.out)
   obtain ⟨x, hx⟩ : ∃ x, x = ps.headD 0 := ⟨_, rfl⟩
   rw [<- hx] at hlen' HNx
   clear hx
   by_cases hod : x % 2 = 1
   ·rw [if_pos hod] at hlen'
    obtain ⟨rfl, rfl⟩ := by simpa using hlen'
    have HO : Hid (decide (x % 2 = 1) = true) := by show _ = _; simp [hod]
    clear hlen hlen' hod
    by_cases hlt : S.length < N.length
    ·obtain rfl : E = N.length := by omega
     clear heq hE
     go_wp2_with fail
     refine HNx.out.mono ?_
     rintro e w1 ⟨rfl, hP1, hF1⟩
     have e1 := hF1.cell d1 (by simp; exact hfp)
     have e2 := hF1.cell d2 (by simp; exact hfp)
     have HP1 := Hid.mk' hP1
     have HF1 := Hid.mk' hF1
     have hz1 := hF1.2.1
     clear hP1 hF1 HNx d1 d2 HP
     go_wp2_with fail
     refine (odd_any _ _).mono ?_
     rintro e w' ⟨rfl, hw'⟩
     obtain rfl := hw'.symm
     clear hw'
     rw [HO.out]
     go_wp2_with fail
     go_quiet (fail)
     obtain ⟨w2, hmk, hrw, hbw⟩ := HMK.out (w1.drewN nq)
     have hz : (w1.drewN nq).heap.size = w1.heap.size := rfl
     rw [hz] at hmk hrw hbw
     have hbw2 : Below w1.heap.size w1 w2 := (below_drewN (Below.refl _ _) nq).trans hbw
     clear hbw HMK
     go_wp2
     exact ⟨0, _, _, _, _, _, _, _, _, _, _, _, _, _, _, _, _, _, _, _, _, _, _, _, _, _, _, _, _, _, _, _, _, _, _, _, _, _, _, _, _, _, _, _, _, _, _, _, _, _, _, _, _, _, _, _, _, _, _, _, _, _, _, _, _, _, _, _, _, _, _, _, _, _, _, _, rfl, by omega, by omega, hrw, fun k hk => by (have := own_is hk); omega, HP1.out.on hbw2, HF1.out.trans (Fr.of_below (fs := []) hbw2) (by simp)⟩
    ·obtain rfl : E = S.length := by omega
     clear heq hE
     go_wp2_with fail
     refine HNx.out.mono ?_
     rintro e w1 ⟨rfl, hP1, hF1⟩
     have e1 := hF1.cell d1 (by simp; exact hfp)
     have e2 := hF1.cell d2 (by simp; exact hfp)
     have HP1 := Hid.mk' hP1
     have HF1 := Hid.mk' hF1
     have hz1 := hF1.2.1
     clear hP1 hF1 HNx d1 d2 HP
     go_wp2_with fail
     refine (odd_any _ _).mono ?_
     rintro e w' ⟨rfl, hw'⟩
     obtain rfl := hw'.symm
     clear hw'
     rw [HO.out]
     go_wp2_with fail
     go_quiet (fail)
     obtain ⟨w2, hmk, hrw, hbw⟩ := HMK.out (w1.drewN nq)
     have hz : (w1.drewN nq).heap.size = w1.heap.size := rfl
     rw [hz] at hmk hrw hbw
     have hbw2 : Below w1.heap.size w1 w2 := (below_drewN (Below.refl _ _) nq).trans hbw
     clear hbw HMK
     go_wp2
     exact ⟨0, _, _, _, _, _, _, _, _, _, _, _, _, _, _, _, _, _, _, _, _, _, _, _, _, _, _, _, _, _, _, _, _, _, _, _, _, _, _, _, _, _, _, _, _, _, _, _, _, _, _, _, _, _, _, _, _, _, _, _, _, _, _, _, _, _, _, _, _, _, _, _, _, _, _, _, rfl, by omega, by omega, hrw, fun k hk => by (have := own_is hk); omega, HP1.out.on hbw2, HF1.out.trans (Fr.of_below (fs := []) hbw2) (by simp)⟩
   ·rw [if_neg hod] at hlen'
    obtain ⟨rfl, rfl⟩ := by simpa using hlen'
    have HO : Hid (decide (x % 2 = 1) = false) := by show _ = _; simp [hod]
    clear hlen hlen' hod
    by_cases hlt : S.length < N.length
    ·obtain rfl : E = N.length := by omega
     clear heq hE
     go_wp2_with fail
     refine HNx.out.mono ?_
     rintro e w1 ⟨rfl, hP1, hF1⟩
     have e1 := hF1.cell d1 (by simp; exact hfp)
     have e2 := hF1.cell d2 (by simp; exact hfp)
     have HP1 := Hid.mk' hP1
     have HF1 := Hid.mk' hF1
     have hz1 := hF1.2.1
     clear hP1 hF1 HNx d1 d2 HP
     go_wp2_with fail
     refine (odd_any _ _).mono ?_
     rintro e w' ⟨rfl, hw'⟩
     obtain rfl := hw'.symm
     clear hw'
     rw [HO.out]
     go_wp2_with fail
     go_quiet (fail)
     obtain ⟨w2, hmk, hrw, hbw⟩ := HMK.out (w1.drewN nq)
     have hz : (w1.drewN nq).heap.size = w1.heap.size := rfl
     rw [hz] at hmk hrw hbw
     have hbw2 : Below w1.heap.size w1 w2 := (below_drewN (Below.refl _ _) nq).trans hbw
     clear hbw HMK
     go_wp2
     exact ⟨0, _, _, _, _, _, _, _, _, _, _, _, _, _, _, _, _, _, _, _, _, _, _, _, _, _, _, _, _, _, _, _, _, _, _, _, _, _, _, _, _, _, _, _, _, _, _, _, _, _, _, _, _, _, _, _, _, _, _, _, _, _, _, _, _, _, _, _, _, _, _, _, _, _, _, _, rfl, by omega, by omega, hrw, fun k hk => by (have := own_is hk); omega, HP1.out.on hbw2, HF1.out.trans (Fr.of_below (fs := []) hbw2) (by simp)⟩
    ·obtain rfl : E = S.length := by omega
     clear heq hE
     go_wp2_with fail
     refine HNx.out.mono ?_
     rintro e w1 ⟨rfl, hP1, hF1⟩
     have e1 := hF1.cell d1 (by simp; exact hfp)
     have e2 := hF1.cell d2 (by simp; exact hfp)
     have HP1 := Hid.mk' hP1
     have HF1 := Hid.mk' hF1
     have hz1 := hF1.2.1
     clear hP1 hF1 HNx d1 d2 HP
     go_wp2_with fail
     refine (odd_any _ _).mono ?_
     rintro e w' ⟨rfl, hw'⟩
     obtain rfl := hw'.symm
     clear hw'
     rw [HO.out]
     go_wp2_with fail
     go_quiet (fail)
     obtain ⟨w2, hmk, hrw, hbw⟩ := HMK.out (w1.drewN nq)
     have hz : (w1.drewN nq).heap.size = w1.heap.size := rfl
     rw [hz] at hmk hrw hbw
     have hbw2 : Below w1.heap.size w1 w2 := (below_drewN (Below.refl _ _) nq).trans hbw
     clear hbw HMK
     go_wp2
     exact ⟨0, _, _, _, _, _, _, _, _, _, _, _, _, _, _, _, _, _, _, _, _, _, _, _, _, _, _, _, _, _, _, _, _, _, _, _, _, _, _, _, _, _, _, _, _, _, _, _, _, _, _, _, _, _, _, _, _, _, _, _, _, _, _, _, _, _, _, _, _, _, _, _, _, _, _, _, rfl, by omega, by omega, hrw, fun k hk => by (have := own_is hk); omega, HP1.out.on hbw2, HF1.out.trans (Fr.of_below (fs := []) hbw2) (by simp)⟩
 ·rintro a' wx ⟨i, q, v, u9, u10, u11, u12, u13, u14, u15, u16, u17, u18, u19, u20, u21, u22, u23, u24, u25, u26, u27, u28, u29, u30, u31, u32, u33, u34, u35, u36, u37, u38, u39, u40, u41, u42, u43, u44, u45, u46, u47, u48, u49, u50, u51, u52, u53, u54, u55, u56, u57, u58, u59, u60, u61, u62, u63, u64, u65, u66, u67, u68, u69, u70, u71, u72, u73, u74, u75, u76, u77, u78, u79, u80, u81, rfl, hq, hi, hrw, hown, hPx, hFx⟩
  have e1 := hFx.cell d1 (by simp; exact hfp)
  have e2 := hFx.cell d2 (by simp; exact hfp)
  have HSx := Hid.mk' (hFx.sees1 HS.out (fun a n c e hn hk => by (obtain ⟨rfl, rfl, rfl⟩ := by simpa using e); exact HA1.out a rfl hn (by simpa using hk)))
  have HNx := Hid.mk' (hFx.sees1 HN.out (fun a n c e hn hk => by (obtain ⟨rfl, rfl, rfl⟩ := by simpa using e); exact HA2.out a rfl hn (by simpa using hk)))
  have HRw := Hid.mk' hrw
  have HOw := Hid.mk' hown
  have HOlt := Hid.mk' hrw.lt
  have HPx := Hid.mk' hPx
  have HFx := Hid.mk' hFx
  have hzx := hFx.2.1
  have hPBi := M.secs_pb S N HPB.out i
  have hlb := World.block_lt_of_cell? _ _ e1
  clear hrw hown hPx hFx HS HN d1 d2 HA1 HA2 HP hlen
  simp only at hlb
  by_cases hend : (E : Int) <= q
  ·have hic : i = M.cnt S N := by have hE := HE.out; unfold M.cnt; omega
   rw [hic] at HRw HPx
   go_wp2_with fail
   refine (sized_any wx v _ HRw.out n hnl).mono ?_
   rintro e w' ⟨v', rfl, hr', hg', ho'⟩
   have hF' := Fr.of_grown hg'
   go_wp2
   simp only [Exit.jump]
   go_ret
   refine ⟨v', rfl, hr', fun k hk => ?_, HPx.out.fr hF' (fun hm => ?_) (fun k hk => ?_), HFx.out.trans hF' (fun k hk => .inr (HOw.out k (by simpa using hk)))⟩
   ·rcases ho' with h | h
    ·exact HOw.out k (h ▸ hk)
    ·rw [h] at hk
     have : wx.heap.size = k := by simpa using hk
     omega
   ·have := HOw.out pk (by simpa using hm)
    omega
   ·have := HOw.out k (by simpa using hk)
    omega
  ·obtain ⟨p, rfl⟩ : ∃ p : Nat, q = p := ⟨q.toNat, by omega⟩
   have hp : p = 64 * i := by omega
   have hpm : p <= 9223372036854775807 := by omega
   have HH := Hid.mk' hp
   clear hp hq
   go_wp2_with fail
   go_cut [9, 10] from 54 to 65 (fun u9 u10 wy => ∃ g9 g10, u9 = .pointer (some ⟨g9, 0, none⟩) /\ u10 = .pointer (some ⟨g10, 0, none⟩) /\ wy.heap[g9]? = some (.cells ((M.sz (S.drop p) 64).map B8).toArray 142 (0, 0)) /\ wy.heap[g10]? = some (.cells ((M.sz (N.drop p) 64).map B8).toArray 142 (0, 0)) /\ g9 ≠ g10 /\ wx.heap.size <= g9 /\ wx.heap.size <= g10 /\ Below wx.heap.size wx wy)
   case first =>
    have bb : Below wx.heap.size wx wx.drew := (Below.refl _ _).drew
    refine wp_region_held_drew (S := (fun w' : World => w'.cell? ⟨fb, 1, none⟩ = some (.slice a1 S.length c1) /\ w'.cell? ⟨fb, 2, none⟩ = some (.slice a2 N.length c2))) (by kernel_rfl) (⟨e1, e2⟩) (fun hS => ?_)
    refine tk 0 (v := ?_) rfl (fun _ _ _ h => h) (.inl ⟨by rfl, ?_⟩) hS ?_
    rotate_left
    ·(intro w hSw; (try dsimp only at hSw); go_simp; try (with_reducible rfl))
    try simp only [Act.put, LY]
    refine tk 1 (v := ?_) rfl (fun _ _ _ h => h) (.inl ⟨by rfl, ?_⟩) hS ?_
    rotate_left
    ·(intro w hSw; (try dsimp only at hSw); go_simp; try (with_reducible rfl))
    try simp only [Act.put]
    refine tk 2 (v := ?_) rfl (fun _ _ _ h => h) (.inl ⟨by rfl, ?_⟩) hS ?_
    rotate_left
    ·(intro w hSw; (try dsimp only at hSw); go_simp; try (with_reducible rfl))
    try simp only [Act.put]
    refine tk 3 (v := ?_) rfl (fun _ _ _ h => h) (.inl ⟨by rfl, ?_⟩) hS ?_
    rotate_left
    ·(intro w hSw; (try dsimp only at hSw); go_simp; try (with_reducible rfl))
    try simp only [Act.put]
    refine tk 4 (v := ?_) rfl (fun _ _ _ h => h) (.inl ⟨by rfl, ?_⟩) hS ?_
    rotate_left
    ·(intro w hSw; (try dsimp only at hSw); go_simp; try (with_reducible rfl))
    try simp only [Act.put]
    refine tk 6 (v := ?_) rfl (fun _ _ _ h => h) (.inl ⟨by rfl, ?_⟩) hS ?_
    rotate_left
    ·(intro w hSw; (try dsimp only at hSw); go_simp; try (with_reducible rfl))
    try simp only [Act.put]
    refine tk 7 (v := ?_) rfl (fun _ _ _ h => h) (.inl ⟨by rfl, ?_⟩) hS ?_
    rotate_left
    ·(intro w hSw; (try dsimp only at hSw); go_simp; try (with_reducible rfl))
    try simp only [Act.put]
    refine tk 8 (v := ?_) rfl (fun _ _ _ h => h) (.inl ⟨by rfl, ?_⟩) hS ?_
    rotate_left
    ·(intro w hSw; (try dsimp only at hSw); go_simp; try (with_reducible rfl))
    try simp only [Act.put]
    refine tk 9 (v := ?_) rfl (fun _ _ _ h => h) (.inl ⟨by rfl, ?_⟩) hS ?_
    rotate_left
    ·(intro w hSw; (try dsimp only at hSw); go_simp; try (with_reducible rfl))
    try simp only [Act.put]
    refine tk 10 (v := ?_) rfl (fun _ _ _ h => h) (.inl ⟨by rfl, ?_⟩) hS ?_
    rotate_left
    ·(intro w hSw; (try dsimp only at hSw); go_simp; try (with_reducible rfl))
    try simp only [Act.put]
    refine wpAnyH_ready (rs := [5, 12, 13]) (by kernel_rfl) (by simp) ?_
    refine (AllReadyH.cons rfl (fun K hK => ?_) (AllReadyH.cons rfl (fun K hK => ?_) (AllReadyH.cons rfl (fun K hK => ?_) AllReadyH.nil)))
    ·go_simp
     go_wp2_with (go_at_call 82; refine (sector_any a1 S c1 p _ (HSx.out.below bb) hc1 hm1 hpm).mono ?_; rintro e' wn ⟨rfl, hbn⟩)
     have bbn := bb.trans (hbn.mono bb.size)
     (try (replace h9 := row_on hbn h9))
     (try (replace h10 := row_on hbn h10))
     clear bb
     have bb := bbn
     clear bbn
     refine hK.out _ _ ⟨cell_on hbn hS.1, cell_on hbn hS.2⟩ (fun hS => ?_)
     clear hK K
     try simp only [Act.put, LY]
     refine wpAnyH_ready (rs := [11, 12, 13]) (by kernel_rfl) (by simp) ?_
     refine (AllReadyH.cons rfl (fun K hK => ?_) (AllReadyH.cons rfl (fun K hK => ?_) (AllReadyH.cons rfl (fun K hK => ?_) AllReadyH.nil)))
     ·go_simp
      go_wp2_with (go_at_call 82; refine (sector_any a2 N c2 p _ (HNx.out.below bb) hc2 hm2 hpm).mono ?_; rintro e' wn ⟨rfl, hbn⟩)
      have bbn := bb.trans (hbn.mono bb.size)
      (try (replace h9 := row_on hbn h9))
      (try (replace h10 := row_on hbn h10))
      clear bb
      have bb := bbn
      clear bbn
      refine hK.out _ _ ⟨cell_on hbn hS.1, cell_on hbn hS.2⟩ (fun hS => ?_)
      clear hK K
      try simp only [Act.put, LY]
      refine wpAnyH_ready (rs := [12, 13]) (by kernel_rfl) (by simp) ?_
      refine (AllReadyH.cons rfl (fun K hK => ?_) (AllReadyH.cons rfl (fun K hK => ?_) AllReadyH.nil))
      ·rw [if_pos (by rfl)]
       refine wp_alloc124' rfl (fun g9 wn h9 le9 hbn => ?_)
       change K (Act.put _ (some 9) _) _
       (try (have ne : g9 ≠ g10 := (fun q => absurd (row_lt h10) (by omega))))
       (try (replace h10 := row_on hbn h10))
       replace le9 := Nat.le_trans bb.size le9
       have bbn := bb.trans (hbn.mono bb.size)
       clear bb
       have bb := bbn
       clear bbn
       refine hK.out _ _ ⟨cell_on hbn hS.1, cell_on hbn hS.2⟩ (fun hS => ?_)
       clear hK K
       try simp only [Act.put, LY]
       refine wpAnyH_ready (rs := [13]) (by kernel_rfl) (by simp) ?_
       refine (AllReadyH.cons rfl (fun K hK => ?_) AllReadyH.nil)
       rw [if_pos (by rfl)]
       refine wp_alloc124' rfl (fun g10 wn h10 le10 hbn => ?_)
       change K (Act.put _ (some 10) _) _
       (try (have ne : g9 ≠ g10 := (fun q => absurd (row_lt h9) (by omega))))
       (try (replace h9 := row_on hbn h9))
       replace le10 := Nat.le_trans bb.size le10
       have bbn := bb.trans (hbn.mono bb.size)
       clear bb
       have bb := bbn
       clear bbn
       refine hK.out _ _ ⟨cell_on hbn hS.1, cell_on hbn hS.2⟩ (fun hS => ?_)
       clear hK K
       try simp only [Act.put, LY]
       refine wpAnyH_ready (rs := [14]) (by kernel_rfl) (by simp) ?_
       refine (AllReadyH.cons rfl (fun K hK => ?_) AllReadyH.nil)
       rw [if_pos (by rfl)]
       refine wp_store124 _ _ rfl g9 Z64 _ rfl rfl h9 rfl (by simp [M.sz_length]) (by simpa using one_B8 _) (fun wn hn hFn => ?_)
       change K (Act.put _ none _) _
       have kl := row_lt h10
       have bbn := bb.trans (hFn.below bb.size (fun k hk => by simp at hk; omega))
       replace h10 := (hFn.2.2 _ kl (by simp; exact ne.symm)).trans h10
       clear h9 bb kl
       have h9 := hn
       have bb := bbn
       clear bbn hn
       refine hK.out _ _ ⟨hFn.cell hS.1 (by simp; omega), hFn.cell hS.2 (by simp; omega)⟩ (fun hS => ?_)
       clear hK K
       try simp only [Act.put]
       refine wpAnyH_ready (rs := [15]) (by kernel_rfl) (by simp) ?_
       refine (AllReadyH.cons rfl (fun K hK => ?_) AllReadyH.nil)
       rw [if_pos (by rfl)]
       refine wp_store124 _ _ rfl g10 Z64 _ rfl rfl h10 rfl (by simp [M.sz_length]) (by simpa using one_B8 _) (fun wn hn hFn => ?_)
       change K (Act.put _ none _) _
       have kl := row_lt h9
       have bbn := bb.trans (hFn.below bb.size (fun k hk => by simp at hk; omega))
       replace h9 := (hFn.2.2 _ kl (by simp; exact ne)).trans h9
       clear h10 bb kl
       have h10 := hn
       have bb := bbn
       clear bbn hn
       refine hK.out _ _ ⟨hFn.cell hS.1 (by simp; omega), hFn.cell hS.2 (by simp; omega)⟩ (fun hS => ?_)
       clear hK K
       try simp only [Act.put]
       refine wpAnyH_done (by kernel_rfl) ?_ _
       go_wp2_with fail
       go_meet
       exact ⟨g9, g10, rfl, rfl, h9, h10, ne, le9, le10, bb⟩
      ·rw [if_pos (by rfl)]
       refine wp_alloc124' rfl (fun g10 wn h10 le10 hbn => ?_)
       change K (Act.put _ (some 10) _) _
       (try (have ne : g9 ≠ g10 := (fun q => absurd (row_lt h9) (by omega))))
       (try (replace h9 := row_on hbn h9))
       replace le10 := Nat.le_trans bb.size le10
       have bbn := bb.trans (hbn.mono bb.size)
       clear bb
       have bb := bbn
       clear bbn
       refine hK.out _ _ ⟨cell_on hbn hS.1, cell_on hbn hS.2⟩ (fun hS => ?_)
       clear hK K
       try simp only [Act.put, LY]
       refine wpAnyH_ready (rs := [12]) (by kernel_rfl) (by simp) ?_
       refine (AllReadyH.cons rfl (fun K hK => ?_) AllReadyH.nil)
       rw [if_pos (by rfl)]
       refine wp_alloc124' rfl (fun g9 wn h9 le9 hbn => ?_)
       change K (Act.put _ (some 9) _) _
       (try (have ne : g9 ≠ g10 := (fun q => absurd (row_lt h10) (by omega))))
       (try (replace h10 := row_on hbn h10))
       replace le9 := Nat.le_trans bb.size le9
       have bbn := bb.trans (hbn.mono bb.size)
       clear bb
       have bb := bbn
       clear bbn
       refine hK.out _ _ ⟨cell_on hbn hS.1, cell_on hbn hS.2⟩ (fun hS => ?_)
       clear hK K
       try simp only [Act.put, LY]
       refine wpAnyH_ready (rs := [14]) (by kernel_rfl) (by simp) ?_
       refine (AllReadyH.cons rfl (fun K hK => ?_) AllReadyH.nil)
       rw [if_pos (by rfl)]
       refine wp_store124 _ _ rfl g9 Z64 _ rfl rfl h9 rfl (by simp [M.sz_length]) (by simpa using one_B8 _) (fun wn hn hFn => ?_)
       change K (Act.put _ none _) _
       have kl := row_lt h10
       have bbn := bb.trans (hFn.below bb.size (fun k hk => by simp at hk; omega))
       replace h10 := (hFn.2.2 _ kl (by simp; exact ne.symm)).trans h10
       clear h9 bb kl
       have h9 := hn
       have bb := bbn
       clear bbn hn
       refine hK.out _ _ ⟨hFn.cell hS.1 (by simp; omega), hFn.cell hS.2 (by simp; omega)⟩ (fun hS => ?_)
       clear hK K
       try simp only [Act.put]
       refine wpAnyH_ready (rs := [15]) (by kernel_rfl) (by simp) ?_
       refine (AllReadyH.cons rfl (fun K hK => ?_) AllReadyH.nil)
       rw [if_pos (by rfl)]
       refine wp_store124 _ _ rfl g10 Z64 _ rfl rfl h10 rfl (by simp [M.sz_length]) (by simpa using one_B8 _) (fun wn hn hFn => ?_)
       change K (Act.put _ none _) _
       have kl := row_lt h9
       have bbn := bb.trans (hFn.below bb.size (fun k hk => by simp at hk; omega))
       replace h9 := (hFn.2.2 _ kl (by simp; exact ne)).trans h9
       clear h10 bb kl
       have h10 := hn
       have bb := bbn
       clear bbn hn
       refine hK.out _ _ ⟨hFn.cell hS.1 (by simp; omega), hFn.cell hS.2 (by simp; omega)⟩ (fun hS => ?_)
       clear hK K
       try simp only [Act.put]
       refine wpAnyH_done (by kernel_rfl) ?_ _
       go_wp2_with fail
       go_meet
       exact ⟨g9, g10, rfl, rfl, h9, h10, ne, le9, le10, bb⟩
     ·rw [if_pos (by rfl)]
      refine wp_alloc124' rfl (fun g9 wn h9 le9 hbn => ?_)
      change K (Act.put _ (some 9) _) _
      (try (have ne : g9 ≠ g10 := (fun q => absurd (row_lt h10) (by omega))))
      (try (replace h10 := row_on hbn h10))
      replace le9 := Nat.le_trans bb.size le9
      have bbn := bb.trans (hbn.mono bb.size)
      clear bb
      have bb := bbn
      clear bbn
      refine hK.out _ _ ⟨cell_on hbn hS.1, cell_on hbn hS.2⟩ (fun hS => ?_)
      clear hK K
      try simp only [Act.put, LY]
      refine wpAnyH_ready (rs := [11, 13]) (by kernel_rfl) (by simp) ?_
      refine (AllReadyH.cons rfl (fun K hK => ?_) (AllReadyH.cons rfl (fun K hK => ?_) AllReadyH.nil))
      ·go_simp
       go_wp2_with (go_at_call 82; refine (sector_any a2 N c2 p _ (HNx.out.below bb) hc2 hm2 hpm).mono ?_; rintro e' wn ⟨rfl, hbn⟩)
       have bbn := bb.trans (hbn.mono bb.size)
       (try (replace h9 := row_on hbn h9))
       (try (replace h10 := row_on hbn h10))
       clear bb
       have bb := bbn
       clear bbn
       refine hK.out _ _ ⟨cell_on hbn hS.1, cell_on hbn hS.2⟩ (fun hS => ?_)
       clear hK K
       try simp only [Act.put, LY]
       refine wpAnyH_ready (rs := [13]) (by kernel_rfl) (by simp) ?_
       refine (AllReadyH.cons rfl (fun K hK => ?_) AllReadyH.nil)
       rw [if_pos (by rfl)]
       refine wp_alloc124' rfl (fun g10 wn h10 le10 hbn => ?_)
       change K (Act.put _ (some 10) _) _
       (try (have ne : g9 ≠ g10 := (fun q => absurd (row_lt h9) (by omega))))
       (try (replace h9 := row_on hbn h9))
       replace le10 := Nat.le_trans bb.size le10
       have bbn := bb.trans (hbn.mono bb.size)
       clear bb
       have bb := bbn
       clear bbn
       refine hK.out _ _ ⟨cell_on hbn hS.1, cell_on hbn hS.2⟩ (fun hS => ?_)
       clear hK K
       try simp only [Act.put, LY]
       refine wpAnyH_ready (rs := [14]) (by kernel_rfl) (by simp) ?_
       refine (AllReadyH.cons rfl (fun K hK => ?_) AllReadyH.nil)
       rw [if_pos (by rfl)]
       refine wp_store124 _ _ rfl g9 Z64 _ rfl rfl h9 rfl (by simp [M.sz_length]) (by simpa using one_B8 _) (fun wn hn hFn => ?_)
       change K (Act.put _ none _) _
       have kl := row_lt h10
       have bbn := bb.trans (hFn.below bb.size (fun k hk => by simp at hk; omega))
       replace h10 := (hFn.2.2 _ kl (by simp; exact ne.symm)).trans h10
       clear h9 bb kl
       have h9 := hn
       have bb := bbn
       clear bbn hn
       refine hK.out _ _ ⟨hFn.cell hS.1 (by simp; omega), hFn.cell hS.2 (by simp; omega)⟩ (fun hS => ?_)
       clear hK K
       try simp only [Act.put]
       refine wpAnyH_ready (rs := [15]) (by kernel_rfl) (by simp) ?_
       refine (AllReadyH.cons rfl (fun K hK => ?_) AllReadyH.nil)
       rw [if_pos (by rfl)]
       refine wp_store124 _ _ rfl g10 Z64 _ rfl rfl h10 rfl (by simp [M.sz_length]) (by simpa using one_B8 _) (fun wn hn hFn => ?_)
       change K (Act.put _ none _) _
       have kl := row_lt h9
       have bbn := bb.trans (hFn.below bb.size (fun k hk => by simp at hk; omega))
       replace h9 := (hFn.2.2 _ kl (by simp; exact ne)).trans h9
       clear h10 bb kl
       have h10 := hn
       have bb := bbn
       clear bbn hn
       refine hK.out _ _ ⟨hFn.cell hS.1 (by simp; omega), hFn.cell hS.2 (by simp; omega)⟩ (fun hS => ?_)
       clear hK K
       try simp only [Act.put]
       refine wpAnyH_done (by kernel_rfl) ?_ _
       go_wp2_with fail
       go_meet
       exact ⟨g9, g10, rfl, rfl, h9, h10, ne, le9, le10, bb⟩
      ·rw [if_pos (by rfl)]
       refine wp_alloc124' rfl (fun g10 wn h10 le10 hbn => ?_)
       change K (Act.put _ (some 10) _) _
       (try (have ne : g9 ≠ g10 := (fun q => absurd (row_lt h9) (by omega))))
       (try (replace h9 := row_on hbn h9))
       replace le10 := Nat.le_trans bb.size le10
       have bbn := bb.trans (hbn.mono bb.size)
       clear bb
       have bb := bbn
       clear bbn
       refine hK.out _ _ ⟨cell_on hbn hS.1, cell_on hbn hS.2⟩ (fun hS => ?_)
       clear hK K
       try simp only [Act.put, LY]
       refine wpAnyH_ready (rs := [11]) (by kernel_rfl) (by simp) ?_
       refine (AllReadyH.cons rfl (fun K hK => ?_) AllReadyH.nil)
       go_simp
       go_wp2_with (go_at_call 82; refine (sector_any a2 N c2 p _ (HNx.out.below bb) hc2 hm2 hpm).mono ?_; rintro e' wn ⟨rfl, hbn⟩)
       have bbn := bb.trans (hbn.mono bb.size)
       (try (replace h9 := row_on hbn h9))
       (try (replace h10 := row_on hbn h10))
       clear bb
       have bb := bbn
       clear bbn
       refine hK.out _ _ ⟨cell_on hbn hS.1, cell_on hbn hS.2⟩ (fun hS => ?_)
       clear hK K
       try simp only [Act.put, LY]
       refine wpAnyH_ready (rs := [14]) (by kernel_rfl) (by simp) ?_
       refine (AllReadyH.cons rfl (fun K hK => ?_) AllReadyH.nil)
       rw [if_pos (by rfl)]
       refine wp_store124 _ _ rfl g9 Z64 _ rfl rfl h9 rfl (by simp [M.sz_length]) (by simpa using one_B8 _) (fun wn hn hFn => ?_)
       change K (Act.put _ none _) _
       have kl := row_lt h10
       have bbn := bb.trans (hFn.below bb.size (fun k hk => by simp at hk; omega))
       replace h10 := (hFn.2.2 _ kl (by simp; exact ne.symm)).trans h10
       clear h9 bb kl
       have h9 := hn
       have bb := bbn
       clear bbn hn
       refine hK.out _ _ ⟨hFn.cell hS.1 (by simp; omega), hFn.cell hS.2 (by simp; omega)⟩ (fun hS => ?_)
       clear hK K
       try simp only [Act.put]
       refine wpAnyH_ready (rs := [15]) (by kernel_rfl) (by simp) ?_
       refine (AllReadyH.cons rfl (fun K hK => ?_) AllReadyH.nil)
       rw [if_pos (by rfl)]
       refine wp_store124 _ _ rfl g10 Z64 _ rfl rfl h10 rfl (by simp [M.sz_length]) (by simpa using one_B8 _) (fun wn hn hFn => ?_)
       change K (Act.put _ none _) _
       have kl := row_lt h9
       have bbn := bb.trans (hFn.below bb.size (fun k hk => by simp at hk; omega))
       replace h9 := (hFn.2.2 _ kl (by simp; exact ne)).trans h9
       clear h10 bb kl
       have h10 := hn
       have bb := bbn
       clear bbn hn
       refine hK.out _ _ ⟨hFn.cell hS.1 (by simp; omega), hFn.cell hS.2 (by simp; omega)⟩ (fun hS => ?_)
       clear hK K
       try simp only [Act.put]
       refine wpAnyH_done (by kernel_rfl) ?_ _
       go_wp2_with fail
       go_meet
       exact ⟨g9, g10, rfl, rfl, h9, h10, ne, le9, le10, bb⟩
     ·rw [if_pos (by rfl)]
      refine wp_alloc124' rfl (fun g10 wn h10 le10 hbn => ?_)
      change K (Act.put _ (some 10) _) _
      (try (have ne : g9 ≠ g10 := (fun q => absurd (row_lt h9) (by omega))))
      (try (replace h9 := row_on hbn h9))
      replace le10 := Nat.le_trans bb.size le10
      have bbn := bb.trans (hbn.mono bb.size)
      clear bb
      have bb := bbn
      clear bbn
      refine hK.out _ _ ⟨cell_on hbn hS.1, cell_on hbn hS.2⟩ (fun hS => ?_)
      clear hK K
      try simp only [Act.put, LY]
      refine wpAnyH_ready (rs := [11, 12]) (by kernel_rfl) (by simp) ?_
      refine (AllReadyH.cons rfl (fun K hK => ?_) (AllReadyH.cons rfl (fun K hK => ?_) AllReadyH.nil))
      ·go_simp
       go_wp2_with (go_at_call 82; refine (sector_any a2 N c2 p _ (HNx.out.below bb) hc2 hm2 hpm).mono ?_; rintro e' wn ⟨rfl, hbn⟩)
       have bbn := bb.trans (hbn.mono bb.size)
       (try (replace h9 := row_on hbn h9))
       (try (replace h10 := row_on hbn h10))
       clear bb
       have bb := bbn
       clear bbn
       refine hK.out _ _ ⟨cell_on hbn hS.1, cell_on hbn hS.2⟩ (fun hS => ?_)
       clear hK K
       try simp only [Act.put, LY]
       refine wpAnyH_ready (rs := [12]) (by kernel_rfl) (by simp) ?_
       refine (AllReadyH.cons rfl (fun K hK => ?_) AllReadyH.nil)
       rw [if_pos (by rfl)]
       refine wp_alloc124' rfl (fun g9 wn h9 le9 hbn => ?_)
       change K (Act.put _ (some 9) _) _
       (try (have ne : g9 ≠ g10 := (fun q => absurd (row_lt h10) (by omega))))
       (try (replace h10 := row_on hbn h10))
       replace le9 := Nat.le_trans bb.size le9
       have bbn := bb.trans (hbn.mono bb.size)
       clear bb
       have bb := bbn
       clear bbn
       refine hK.out _ _ ⟨cell_on hbn hS.1, cell_on hbn hS.2⟩ (fun hS => ?_)
       clear hK K
       try simp only [Act.put, LY]
       refine wpAnyH_ready (rs := [14]) (by kernel_rfl) (by simp) ?_
       refine (AllReadyH.cons rfl (fun K hK => ?_) AllReadyH.nil)
       rw [if_pos (by rfl)]
       refine wp_store124 _ _ rfl g9 Z64 _ rfl rfl h9 rfl (by simp [M.sz_length]) (by simpa using one_B8 _) (fun wn hn hFn => ?_)
       change K (Act.put _ none _) _
       have kl := row_lt h10
       have bbn := bb.trans (hFn.below bb.size (fun k hk => by simp at hk; omega))
       replace h10 := (hFn.2.2 _ kl (by simp; exact ne.symm)).trans h10
       clear h9 bb kl
       have h9 := hn
       have bb := bbn
       clear bbn hn
       refine hK.out _ _ ⟨hFn.cell hS.1 (by simp; omega), hFn.cell hS.2 (by simp; omega)⟩ (fun hS => ?_)
       clear hK K
       try simp only [Act.put]
       refine wpAnyH_ready (rs := [15]) (by kernel_rfl) (by simp) ?_
       refine (AllReadyH.cons rfl (fun K hK => ?_) AllReadyH.nil)
       rw [if_pos (by rfl)]
       refine wp_store124 _ _ rfl g10 Z64 _ rfl rfl h10 rfl (by simp [M.sz_length]) (by simpa using one_B8 _) (fun wn hn hFn => ?_)
       change K (Act.put _ none _) _
       have kl := row_lt h9
       have bbn := bb.trans (hFn.below bb.size (fun k hk => by simp at hk; omega))
       replace h9 := (hFn.2.2 _ kl (by simp; exact ne)).trans h9
       clear h10 bb kl
       have h10 := hn
       have bb := bbn
       clear bbn hn
       refine hK.out _ _ ⟨hFn.cell hS.1 (by simp; omega), hFn.cell hS.2 (by simp; omega)⟩ (fun hS => ?_)
       clear hK K
       try simp only [Act.put]
       refine wpAnyH_done (by kernel_rfl) ?_ _
       go_wp2_with fail
       go_meet
       exact ⟨g9, g10, rfl, rfl, h9, h10, ne, le9, le10, bb⟩
      ·rw [if_pos (by rfl)]
       refine wp_alloc124' rfl (fun g9 wn h9 le9 hbn => ?_)
       change K (Act.put _ (some 9) _) _
       (try (have ne : g9 ≠ g10 := (fun q => absurd (row_lt h10) (by omega))))
       (try (replace h10 := row_on hbn h10))
       replace le9 := Nat.le_trans bb.size le9
       have bbn := bb.trans (hbn.mono bb.size)
       clear bb
       have bb := bbn
       clear bbn
       refine hK.out _ _ ⟨cell_on hbn hS.1, cell_on hbn hS.2⟩ (fun hS => ?_)
       clear hK K
       try simp only [Act.put, LY]
       refine wpAnyH_ready (rs := [11]) (by kernel_rfl) (by simp) ?_
       refine (AllReadyH.cons rfl (fun K hK => ?_) AllReadyH.nil)
       go_simp
       go_wp2_with (go_at_call 82; refine (sector_any a2 N c2 p _ (HNx.out.below bb) hc2 hm2 hpm).mono ?_; rintro e' wn ⟨rfl, hbn⟩)
       have bbn := bb.trans (hbn.mono bb.size)
       (try (replace h9 := row_on hbn h9))
       (try (replace h10 := row_on hbn h10))
       clear bb
       have bb := bbn
       clear bbn
       refine hK.out _ _ ⟨cell_on hbn hS.1, cell_on hbn hS.2⟩ (fun hS => ?_)
       clear hK K
       try simp only [Act.put, LY]
       refine wpAnyH_ready (rs := [14]) (by kernel_rfl) (by simp) ?_
       refine (AllReadyH.cons rfl (fun K hK => ?_) AllReadyH.nil)
       rw [if_pos (by rfl)]
       refine wp_store124 _ _ rfl g9 Z64 _ rfl rfl h9 rfl (by simp [M.sz_length]) (by simpa using one_B8 _) (fun wn hn hFn => ?_)
       change K (Act.put _ none _) _
       have kl := row_lt h10
       have bbn := bb.trans (hFn.below bb.size (fun k hk => by simp at hk; omega))
       replace h10 := (hFn.2.2 _ kl (by simp; exact ne.symm)).trans h10
       clear h9 bb kl
       have h9 := hn
       have bb := bbn
       clear bbn hn
       refine hK.out _ _ ⟨hFn.cell hS.1 (by simp; omega), hFn.cell hS.2 (by simp; omega)⟩ (fun hS => ?_)
       clear hK K
       try simp only [Act.put]
       refine wpAnyH_ready (rs := [15]) (by kernel_rfl) (by simp) ?_
       refine (AllReadyH.cons rfl (fun K hK => ?_) AllReadyH.nil)
       rw [if_pos (by rfl)]
       refine wp_store124 _ _ rfl g10 Z64 _ rfl rfl h10 rfl (by simp [M.sz_length]) (by simpa using one_B8 _) (fun wn hn hFn => ?_)
       change K (Act.put _ none _) _
       have kl := row_lt h9
       have bbn := bb.trans (hFn.below bb.size (fun k hk => by simp at hk; omega))
       replace h9 := (hFn.2.2 _ kl (by simp; exact ne)).trans h9
       clear h10 bb kl
       have h10 := hn
       have bb := bbn
       clear bbn hn
       refine hK.out _ _ ⟨hFn.cell hS.1 (by simp; omega), hFn.cell hS.2 (by simp; omega)⟩ (fun hS => ?_)
       clear hK K
       try simp only [Act.put]
       refine wpAnyH_done (by kernel_rfl) ?_ _
       go_wp2_with fail
       go_meet
       exact ⟨g9, g10, rfl, rfl, h9, h10, ne, le9, le10, bb⟩
    ·rw [if_pos (by rfl)]
     refine wp_alloc124' rfl (fun g9 wn h9 le9 hbn => ?_)
     change K (Act.put _ (some 9) _) _
     (try (have ne : g9 ≠ g10 := (fun q => absurd (row_lt h10) (by omega))))
     (try (replace h10 := row_on hbn h10))
     replace le9 := Nat.le_trans bb.size le9
     have bbn := bb.trans (hbn.mono bb.size)
     clear bb
     have bb := bbn
     clear bbn
     refine hK.out _ _ ⟨cell_on hbn hS.1, cell_on hbn hS.2⟩ (fun hS => ?_)
     clear hK K
     try simp only [Act.put]
     refine wpAnyH_ready (rs := [5, 13]) (by kernel_rfl) (by simp) ?_
     refine (AllReadyH.cons rfl (fun K hK => ?_) (AllReadyH.cons rfl (fun K hK => ?_) AllReadyH.nil))
     ·go_simp
      go_wp2_with (go_at_call 82; refine (sector_any a1 S c1 p _ (HSx.out.below bb) hc1 hm1 hpm).mono ?_; rintro e' wn ⟨rfl, hbn⟩)
      have bbn := bb.trans (hbn.mono bb.size)
      (try (replace h9 := row_on hbn h9))
      (try (replace h10 := row_on hbn h10))
      clear bb
      have bb := bbn
      clear bbn
      refine hK.out _ _ ⟨cell_on hbn hS.1, cell_on hbn hS.2⟩ (fun hS => ?_)
      clear hK K
      try simp only [Act.put, LY]
      refine wpAnyH_ready (rs := [11, 13]) (by kernel_rfl) (by simp) ?_
      refine (AllReadyH.cons rfl (fun K hK => ?_) (AllReadyH.cons rfl (fun K hK => ?_) AllReadyH.nil))
      ·go_simp
       go_wp2_with (go_at_call 82; refine (sector_any a2 N c2 p _ (HNx.out.below bb) hc2 hm2 hpm).mono ?_; rintro e' wn ⟨rfl, hbn⟩)
       have bbn := bb.trans (hbn.mono bb.size)
       (try (replace h9 := row_on hbn h9))
       (try (replace h10 := row_on hbn h10))
       clear bb
       have bb := bbn
       clear bbn
       refine hK.out _ _ ⟨cell_on hbn hS.1, cell_on hbn hS.2⟩ (fun hS => ?_)
       clear hK K
       try simp only [Act.put, LY]
       refine wpAnyH_ready (rs := [13]) (by kernel_rfl) (by simp) ?_
       refine (AllReadyH.cons rfl (fun K hK => ?_) AllReadyH.nil)
       rw [if_pos (by rfl)]
       refine wp_alloc124' rfl (fun g10 wn h10 le10 hbn => ?_)
       change K (Act.put _ (some 10) _) _
       (try (have ne : g9 ≠ g10 := (fun q => absurd (row_lt h9) (by omega))))
       (try (replace h9 := row_on hbn h9))
       replace le10 := Nat.le_trans bb.size le10
       have bbn := bb.trans (hbn.mono bb.size)
       clear bb
       have bb := bbn
       clear bbn
       refine hK.out _ _ ⟨cell_on hbn hS.1, cell_on hbn hS.2⟩ (fun hS => ?_)
       clear hK K
       try simp only [Act.put, LY]
       refine wpAnyH_ready (rs := [14]) (by kernel_rfl) (by simp) ?_
       refine (AllReadyH.cons rfl (fun K hK => ?_) AllReadyH.nil)
       rw [if_pos (by rfl)]
       refine wp_store124 _ _ rfl g9 Z64 _ rfl rfl h9 rfl (by simp [M.sz_length]) (by simpa using one_B8 _) (fun wn hn hFn => ?_)
       change K (Act.put _ none _) _
       have kl := row_lt h10
       have bbn := bb.trans (hFn.below bb.size (fun k hk => by simp at hk; omega))
       replace h10 := (hFn.2.2 _ kl (by simp; exact ne.symm)).trans h10
       clear h9 bb kl
       have h9 := hn
       have bb := bbn
       clear bbn hn
       refine hK.out _ _ ⟨hFn.cell hS.1 (by simp; omega), hFn.cell hS.2 (by simp; omega)⟩ (fun hS => ?_)
       clear hK K
       try simp only [Act.put]
       refine wpAnyH_ready (rs := [15]) (by kernel_rfl) (by simp) ?_
       refine (AllReadyH.cons rfl (fun K hK => ?_) AllReadyH.nil)
       rw [if_pos (by rfl)]
       refine wp_store124 _ _ rfl g10 Z64 _ rfl rfl h10 rfl (by simp [M.sz_length]) (by simpa using one_B8 _) (fun wn hn hFn => ?_)
       change K (Act.put _ none _) _
       have kl := row_lt h9
       have bbn := bb.trans (hFn.below bb.size (fun k hk => by simp at hk; omega))
       replace h9 := (hFn.2.2 _ kl (by simp; exact ne)).trans h9
       clear h10 bb kl
       have h10 := hn
       have bb := bbn
       clear bbn hn
       refine hK.out _ _ ⟨hFn.cell hS.1 (by simp; omega), hFn.cell hS.2 (by simp; omega)⟩ (fun hS => ?_)
       clear hK K
       try simp only [Act.put]
       refine wpAnyH_done (by kernel_rfl) ?_ _
       go_wp2_with fail
       go_meet
       exact ⟨g9, g10, rfl, rfl, h9, h10, ne, le9, le10, bb⟩
      ·rw [if_pos (by rfl)]
       refine wp_alloc124' rfl (fun g10 wn h10 le10 hbn => ?_)
       change K (Act.put _ (some 10) _) _
       (try (have ne : g9 ≠ g10 := (fun q => absurd (row_lt h9) (by omega))))
       (try (replace h9 := row_on hbn h9))
       replace le10 := Nat.le_trans bb.size le10
       have bbn := bb.trans (hbn.mono bb.size)
       clear bb
       have bb := bbn
       clear bbn
       refine hK.out _ _ ⟨cell_on hbn hS.1, cell_on hbn hS.2⟩ (fun hS => ?_)
       clear hK K
       try simp only [Act.put, LY]
       refine wpAnyH_ready (rs := [11]) (by kernel_rfl) (by simp) ?_
       refine (AllReadyH.cons rfl (fun K hK => ?_) AllReadyH.nil)
       go_simp
       go_wp2_with (go_at_call 82; refine (sector_any a2 N c2 p _ (HNx.out.below bb) hc2 hm2 hpm).mono ?_; rintro e' wn ⟨rfl, hbn⟩)
       have bbn := bb.trans (hbn.mono bb.size)
       (try (replace h9 := row_on hbn h9))
       (try (replace h10 := row_on hbn h10))
       clear bb
       have bb := bbn
       clear bbn
       refine hK.out _ _ ⟨cell_on hbn hS.1, cell_on hbn hS.2⟩ (fun hS => ?_)
       clear hK K
       try simp only [Act.put, LY]
       refine wpAnyH_ready (rs := [14]) (by kernel_rfl) (by simp) ?_
       refine (AllReadyH.cons rfl (fun K hK => ?_) AllReadyH.nil)
       rw [if_pos (by rfl)]
       refine wp_store124 _ _ rfl g9 Z64 _ rfl rfl h9 rfl (by simp [M.sz_length]) (by simpa using one_B8 _) (fun wn hn hFn => ?_)
       change K (Act.put _ none _) _
       have kl := row_lt h10
       have bbn := bb.trans (hFn.below bb.size (fun k hk => by simp at hk; omega))
       replace h10 := (hFn.2.2 _ kl (by simp; exact ne.symm)).trans h10
       clear h9 bb kl
       have h9 := hn
       have bb := bbn
       clear bbn hn
       refine hK.out _ _ ⟨hFn.cell hS.1 (by simp; omega), hFn.cell hS.2 (by simp; omega)⟩ (fun hS => ?_)
       clear hK K
       try simp only [Act.put]
       refine wpAnyH_ready (rs := [15]) (by kernel_rfl) (by simp) ?_
       refine (AllReadyH.cons rfl (fun K hK => ?_) AllReadyH.nil)
       rw [if_pos (by rfl)]
       refine wp_store124 _ _ rfl g10 Z64 _ rfl rfl h10 rfl (by simp [M.sz_length]) (by simpa using one_B8 _) (fun wn hn hFn => ?_)
       change K (Act.put _ none _) _
       have kl := row_lt h9
       have bbn := bb.trans (hFn.below bb.size (fun k hk => by simp at hk; omega))
       replace h9 := (hFn.2.2 _ kl (by simp; exact ne)).trans h9
       clear h10 bb kl
       have h10 := hn
       have bb := bbn
       clear bbn hn
       refine hK.out _ _ ⟨hFn.cell hS.1 (by simp; omega), hFn.cell hS.2 (by simp; omega)⟩ (fun hS => ?_)
       clear hK K
       try simp only [Act.put]
       refine wpAnyH_done (by kernel_rfl) ?_ _
       go_wp2_with fail
       go_meet
       exact ⟨g9, g10, rfl, rfl, h9, h10, ne, le9, le10, bb⟩
     ·rw [if_pos (by rfl)]
      refine wp_alloc124' rfl (fun g10 wn h10 le10 hbn => ?_)
      change K (Act.put _ (some 10) _) _
      (try (have ne : g9 ≠ g10 := (fun q => absurd (row_lt h9) (by omega))))
      (try (replace h9 := row_on hbn h9))
      replace le10 := Nat.le_trans bb.size le10
      have bbn := bb.trans (hbn.mono bb.size)
      clear bb
      have bb := bbn
      clear bbn
      refine hK.out _ _ ⟨cell_on hbn hS.1, cell_on hbn hS.2⟩ (fun hS => ?_)
      clear hK K
      try simp only [Act.put]
      refine wpAnyH_ready (rs := [5]) (by kernel_rfl) (by simp) ?_
      refine (AllReadyH.cons rfl (fun K hK => ?_) AllReadyH.nil)
      go_simp
      go_wp2_with (go_at_call 82; refine (sector_any a1 S c1 p _ (HSx.out.below bb) hc1 hm1 hpm).mono ?_; rintro e' wn ⟨rfl, hbn⟩)
      have bbn := bb.trans (hbn.mono bb.size)
      (try (replace h9 := row_on hbn h9))
      (try (replace h10 := row_on hbn h10))
      clear bb
      have bb := bbn
      clear bbn
      refine hK.out _ _ ⟨cell_on hbn hS.1, cell_on hbn hS.2⟩ (fun hS => ?_)
      clear hK K
      try simp only [Act.put, LY]
      refine wpAnyH_ready (rs := [11]) (by kernel_rfl) (by simp) ?_
      refine (AllReadyH.cons rfl (fun K hK => ?_) AllReadyH.nil)
      go_simp
      go_wp2_with (go_at_call 82; refine (sector_any a2 N c2 p _ (HNx.out.below bb) hc2 hm2 hpm).mono ?_; rintro e' wn ⟨rfl, hbn⟩)
      have bbn := bb.trans (hbn.mono bb.size)
      (try (replace h9 := row_on hbn h9))
      (try (replace h10 := row_on hbn h10))
      clear bb
      have bb := bbn
      clear bbn
      refine hK.out _ _ ⟨cell_on hbn hS.1, cell_on hbn hS.2⟩ (fun hS => ?_)
      clear hK K
      try simp only [Act.put, LY]
      refine wpAnyH_ready (rs := [14]) (by kernel_rfl) (by simp) ?_
      refine (AllReadyH.cons rfl (fun K hK => ?_) AllReadyH.nil)
      rw [if_pos (by rfl)]
      refine wp_store124 _ _ rfl g9 Z64 _ rfl rfl h9 rfl (by simp [M.sz_length]) (by simpa using one_B8 _) (fun wn hn hFn => ?_)
      change K (Act.put _ none _) _
      have kl := row_lt h10
      have bbn := bb.trans (hFn.below bb.size (fun k hk => by simp at hk; omega))
      replace h10 := (hFn.2.2 _ kl (by simp; exact ne.symm)).trans h10
      clear h9 bb kl
      have h9 := hn
      have bb := bbn
      clear bbn hn
      refine hK.out _ _ ⟨hFn.cell hS.1 (by simp; omega), hFn.cell hS.2 (by simp; omega)⟩ (fun hS => ?_)
      clear hK K
      try simp only [Act.put]
      refine wpAnyH_ready (rs := [15]) (by kernel_rfl) (by simp) ?_
      refine (AllReadyH.cons rfl (fun K hK => ?_) AllReadyH.nil)
      rw [if_pos (by rfl)]
      refine wp_store124 _ _ rfl g10 Z64 _ rfl rfl h10 rfl (by simp [M.sz_length]) (by simpa using one_B8 _) (fun wn hn hFn => ?_)
      change K (Act.put _ none _) _
      have kl := row_lt h9
      have bbn := bb.trans (hFn.below bb.size (fun k hk => by simp at hk; omega))
      replace h9 := (hFn.2.2 _ kl (by simp; exact ne)).trans h9
      clear h10 bb kl
      have h10 := hn
      have bb := bbn
      clear bbn hn
      refine hK.out _ _ ⟨hFn.cell hS.1 (by simp; omega), hFn.cell hS.2 (by simp; omega)⟩ (fun hS => ?_)
      clear hK K
      try simp only [Act.put]
      refine wpAnyH_done (by kernel_rfl) ?_ _
      go_wp2_with fail
      go_meet
      exact ⟨g9, g10, rfl, rfl, h9, h10, ne, le9, le10, bb⟩
    ·rw [if_pos (by rfl)]
     refine wp_alloc124' rfl (fun g10 wn h10 le10 hbn => ?_)
     change K (Act.put _ (some 10) _) _
     (try (have ne : g9 ≠ g10 := (fun q => absurd (row_lt h9) (by omega))))
     (try (replace h9 := row_on hbn h9))
     replace le10 := Nat.le_trans bb.size le10
     have bbn := bb.trans (hbn.mono bb.size)
     clear bb
     have bb := bbn
     clear bbn
     refine hK.out _ _ ⟨cell_on hbn hS.1, cell_on hbn hS.2⟩ (fun hS => ?_)
     clear hK K
     try simp only [Act.put]
     refine wpAnyH_ready (rs := [5, 12]) (by kernel_rfl) (by simp) ?_
     refine (AllReadyH.cons rfl (fun K hK => ?_) (AllReadyH.cons rfl (fun K hK => ?_) AllReadyH.nil))
     ·go_simp
      go_wp2_with (go_at_call 82; refine (sector_any a1 S c1 p _ (HSx.out.below bb) hc1 hm1 hpm).mono ?_; rintro e' wn ⟨rfl, hbn⟩)
      have bbn := bb.trans (hbn.mono bb.size)
      (try (replace h9 := row_on hbn h9))
      (try (replace h10 := row_on hbn h10))
      clear bb
      have bb := bbn
      clear bbn
      refine hK.out _ _ ⟨cell_on hbn hS.1, cell_on hbn hS.2⟩ (fun hS => ?_)
      clear hK K
      try simp only [Act.put, LY]
      refine wpAnyH_ready (rs := [11, 12]) (by kernel_rfl) (by simp) ?_
      refine (AllReadyH.cons rfl (fun K hK => ?_) (AllReadyH.cons rfl (fun K hK => ?_) AllReadyH.nil))
      ·go_simp
       go_wp2_with (go_at_call 82; refine (sector_any a2 N c2 p _ (HNx.out.below bb) hc2 hm2 hpm).mono ?_; rintro e' wn ⟨rfl, hbn⟩)
       have bbn := bb.trans (hbn.mono bb.size)
       (try (replace h9 := row_on hbn h9))
       (try (replace h10 := row_on hbn h10))
       clear bb
       have bb := bbn
       clear bbn
       refine hK.out _ _ ⟨cell_on hbn hS.1, cell_on hbn hS.2⟩ (fun hS => ?_)
       clear hK K
       try simp only [Act.put, LY]
       refine wpAnyH_ready (rs := [12]) (by kernel_rfl) (by simp) ?_
       refine (AllReadyH.cons rfl (fun K hK => ?_) AllReadyH.nil)
       rw [if_pos (by rfl)]
       refine wp_alloc124' rfl (fun g9 wn h9 le9 hbn => ?_)
       change K (Act.put _ (some 9) _) _
       (try (have ne : g9 ≠ g10 := (fun q => absurd (row_lt h10) (by omega))))
       (try (replace h10 := row_on hbn h10))
       replace le9 := Nat.le_trans bb.size le9
       have bbn := bb.trans (hbn.mono bb.size)
       clear bb
       have bb := bbn
       clear bbn
       refine hK.out _ _ ⟨cell_on hbn hS.1, cell_on hbn hS.2⟩ (fun hS => ?_)
       clear hK K
       try simp only [Act.put, LY]
       refine wpAnyH_ready (rs := [14]) (by kernel_rfl) (by simp) ?_
       refine (AllReadyH.cons rfl (fun K hK => ?_) AllReadyH.nil)
       rw [if_pos (by rfl)]
       refine wp_store124 _ _ rfl g9 Z64 _ rfl rfl h9 rfl (by simp [M.sz_length]) (by simpa using one_B8 _) (fun wn hn hFn => ?_)
       change K (Act.put _ none _) _
       have kl := row_lt h10
       have bbn := bb.trans (hFn.below bb.size (fun k hk => by simp at hk; omega))
       replace h10 := (hFn.2.2 _ kl (by simp; exact ne.symm)).trans h10
       clear h9 bb kl
       have h9 := hn
       have bb := bbn
       clear bbn hn
       refine hK.out _ _ ⟨hFn.cell hS.1 (by simp; omega), hFn.cell hS.2 (by simp; omega)⟩ (fun hS => ?_)
       clear hK K
       try simp only [Act.put]
       refine wpAnyH_ready (rs := [15]) (by kernel_rfl) (by simp) ?_
       refine (AllReadyH.cons rfl (fun K hK => ?_) AllReadyH.nil)
       rw [if_pos (by rfl)]
       refine wp_store124 _ _ rfl g10 Z64 _ rfl rfl h10 rfl (by simp [M.sz_length]) (by simpa using one_B8 _) (fun wn hn hFn => ?_)
       change K (Act.put _ none _) _
       have kl := row_lt h9
       have bbn := bb.trans (hFn.below bb.size (fun k hk => by simp at hk; omega))
       replace h9 := (hFn.2.2 _ kl (by simp; exact ne)).trans h9
       clear h10 bb kl
       have h10 := hn
       have bb := bbn
       clear bbn hn
       refine hK.out _ _ ⟨hFn.cell hS.1 (by simp; omega), hFn.cell hS.2 (by simp; omega)⟩ (fun hS => ?_)
       clear hK K
       try simp only [Act.put]
       refine wpAnyH_done (by kernel_rfl) ?_ _
       go_wp2_with fail
       go_meet
       exact ⟨g9, g10, rfl, rfl, h9, h10, ne, le9, le10, bb⟩
      ·rw [if_pos (by rfl)]
       refine wp_alloc124' rfl (fun g9 wn h9 le9 hbn => ?_)
       change K (Act.put _ (some 9) _) _
       (try (have ne : g9 ≠ g10 := (fun q => absurd (row_lt h10) (by omega))))
       (try (replace h10 := row_on hbn h10))
       replace le9 := Nat.le_trans bb.size le9
       have bbn := bb.trans (hbn.mono bb.size)
       clear bb
       have bb := bbn
       clear bbn
       refine hK.out _ _ ⟨cell_on hbn hS.1, cell_on hbn hS.2⟩ (fun hS => ?_)
       clear hK K
       try simp only [Act.put, LY]
       refine wpAnyH_ready (rs := [11]) (by kernel_rfl) (by simp) ?_
       refine (AllReadyH.cons rfl (fun K hK => ?_) AllReadyH.nil)
       go_simp
       go_wp2_with (go_at_call 82; refine (sector_any a2 N c2 p _ (HNx.out.below bb) hc2 hm2 hpm).mono ?_; rintro e' wn ⟨rfl, hbn⟩)
       have bbn := bb.trans (hbn.mono bb.size)
       (try (replace h9 := row_on hbn h9))
       (try (replace h10 := row_on hbn h10))
       clear bb
       have bb := bbn
       clear bbn
       refine hK.out _ _ ⟨cell_on hbn hS.1, cell_on hbn hS.2⟩ (fun hS => ?_)
       clear hK K
       try simp only [Act.put, LY]
       refine wpAnyH_ready (rs := [14]) (by kernel_rfl) (by simp) ?_
       refine (AllReadyH.cons rfl (fun K hK => ?_) AllReadyH.nil)
       rw [if_pos (by rfl)]
       refine wp_store124 _ _ rfl g9 Z64 _ rfl rfl h9 rfl (by simp [M.sz_length]) (by simpa using one_B8 _) (fun wn hn hFn => ?_)
       change K (Act.put _ none _) _
       have kl := row_lt h10
       have bbn := bb.trans (hFn.below bb.size (fun k hk => by simp at hk; omega))
       replace h10 := (hFn.2.2 _ kl (by simp; exact ne.symm)).trans h10
       clear h9 bb kl
       have h9 := hn
       have bb := bbn
       clear bbn hn
       refine hK.out _ _ ⟨hFn.cell hS.1 (by simp; omega), hFn.cell hS.2 (by simp; omega)⟩ (fun hS => ?_)
       clear hK K
       try simp only [Act.put]
       refine wpAnyH_ready (rs := [15]) (by kernel_rfl) (by simp) ?_
       refine (AllReadyH.cons rfl (fun K hK => ?_) AllReadyH.nil)
       rw [if_pos (by rfl)]
       refine wp_store124 _ _ rfl g10 Z64 _ rfl rfl h10 rfl (by simp [M.sz_length]) (by simpa using one_B8 _) (fun wn hn hFn => ?_)
       change K (Act.put _ none _) _
       have kl := row_lt h9
       have bbn := bb.trans (hFn.below bb.size (fun k hk => by simp at hk; omega))
       replace h9 := (hFn.2.2 _ kl (by simp; exact ne)).trans h9
       clear h10 bb kl
       have h10 := hn
       have bb := bbn
       clear bbn hn
       refine hK.out _ _ ⟨hFn.cell hS.1 (by simp; omega), hFn.cell hS.2 (by simp; omega)⟩ (fun hS => ?_)
       clear hK K
       try simp only [Act.put]
       refine wpAnyH_done (by kernel_rfl) ?_ _
       go_wp2_with fail
       go_meet
       exact ⟨g9, g10, rfl, rfl, h9, h10, ne, le9, le10, bb⟩
     ·rw [if_pos (by rfl)]
      refine wp_alloc124' rfl (fun g9 wn h9 le9 hbn => ?_)
      change K (Act.put _ (some 9) _) _
      (try (have ne : g9 ≠ g10 := (fun q => absurd (row_lt h10) (by omega))))
      (try (replace h10 := row_on hbn h10))
      replace le9 := Nat.le_trans bb.size le9
      have bbn := bb.trans (hbn.mono bb.size)
      clear bb
      have bb := bbn
      clear bbn
      refine hK.out _ _ ⟨cell_on hbn hS.1, cell_on hbn hS.2⟩ (fun hS => ?_)
      clear hK K
      try simp only [Act.put]
      refine wpAnyH_ready (rs := [5]) (by kernel_rfl) (by simp) ?_
      refine (AllReadyH.cons rfl (fun K hK => ?_) AllReadyH.nil)
      go_simp
      go_wp2_with (go_at_call 82; refine (sector_any a1 S c1 p _ (HSx.out.below bb) hc1 hm1 hpm).mono ?_; rintro e' wn ⟨rfl, hbn⟩)
      have bbn := bb.trans (hbn.mono bb.size)
      (try (replace h9 := row_on hbn h9))
      (try (replace h10 := row_on hbn h10))
      clear bb
      have bb := bbn
      clear bbn
      refine hK.out _ _ ⟨cell_on hbn hS.1, cell_on hbn hS.2⟩ (fun hS => ?_)
      clear hK K
      try simp only [Act.put, LY]
      refine wpAnyH_ready (rs := [11]) (by kernel_rfl) (by simp) ?_
      refine (AllReadyH.cons rfl (fun K hK => ?_) AllReadyH.nil)
      go_simp
      go_wp2_with (go_at_call 82; refine (sector_any a2 N c2 p _ (HNx.out.below bb) hc2 hm2 hpm).mono ?_; rintro e' wn ⟨rfl, hbn⟩)
      have bbn := bb.trans (hbn.mono bb.size)
      (try (replace h9 := row_on hbn h9))
      (try (replace h10 := row_on hbn h10))
      clear bb
      have bb := bbn
      clear bbn
      refine hK.out _ _ ⟨cell_on hbn hS.1, cell_on hbn hS.2⟩ (fun hS => ?_)
      clear hK K
      try simp only [Act.put, LY]
      refine wpAnyH_ready (rs := [14]) (by kernel_rfl) (by simp) ?_
      refine (AllReadyH.cons rfl (fun K hK => ?_) AllReadyH.nil)
      rw [if_pos (by rfl)]
      refine wp_store124 _ _ rfl g9 Z64 _ rfl rfl h9 rfl (by simp [M.sz_length]) (by simpa using one_B8 _) (fun wn hn hFn => ?_)
      change K (Act.put _ none _) _
      have kl := row_lt h10
      have bbn := bb.trans (hFn.below bb.size (fun k hk => by simp at hk; omega))
      replace h10 := (hFn.2.2 _ kl (by simp; exact ne.symm)).trans h10
      clear h9 bb kl
      have h9 := hn
      have bb := bbn
      clear bbn hn
      refine hK.out _ _ ⟨hFn.cell hS.1 (by simp; omega), hFn.cell hS.2 (by simp; omega)⟩ (fun hS => ?_)
      clear hK K
      try simp only [Act.put]
      refine wpAnyH_ready (rs := [15]) (by kernel_rfl) (by simp) ?_
      refine (AllReadyH.cons rfl (fun K hK => ?_) AllReadyH.nil)
      rw [if_pos (by rfl)]
      refine wp_store124 _ _ rfl g10 Z64 _ rfl rfl h10 rfl (by simp [M.sz_length]) (by simpa using one_B8 _) (fun wn hn hFn => ?_)
      change K (Act.put _ none _) _
      have kl := row_lt h9
      have bbn := bb.trans (hFn.below bb.size (fun k hk => by simp at hk; omega))
      replace h9 := (hFn.2.2 _ kl (by simp; exact ne)).trans h9
      clear h10 bb kl
      have h10 := hn
      have bb := bbn
      clear bbn hn
      refine hK.out _ _ ⟨hFn.cell hS.1 (by simp; omega), hFn.cell hS.2 (by simp; omega)⟩ (fun hS => ?_)
      clear hK K
      try simp only [Act.put]
      refine wpAnyH_done (by kernel_rfl) ?_ _
      go_wp2_with fail
      go_meet
      exact ⟨g9, g10, rfl, rfl, h9, h10, ne, le9, le10, bb⟩
   case rest =>
    obtain ⟨g9, g10, rfl, rfl, h9, h10, ne, le9, le10, bb⟩ := hcut
    have hic : 64 * (i + 1) <= 4194304 := by have := HH.out; omega
    obtain ⟨s, hs⟩ : ∃ s, s = M.sz (S.drop p) 64 := ⟨_, rfl⟩
    obtain ⟨m, hm⟩ : ∃ m, m = M.sz (N.drop p) 64 := ⟨_, rfl⟩
    have hsl : s.length = 64 := by rw [hs, M.sz_length]
    have hml : m.length = 64 := by rw [hm, M.sz_length]
    have HSec0 : Hid (M.secs S N ps1 (i + 1) = ((M.secs S N ps1 i).1 ++ (M.sec1 s m (M.secs S N ps1 i).2).1, (M.sec1 s m (M.secs S N ps1 i).2).2)) := by
     show _ = _
     rw [hs, hm, HH.out]
     rfl
    rw [<- hs] at h9
    rw [<- hm] at h10
    clear hs hm
    have hgu := guard124
    have hnq := run_neq_sector s m hsl hml
    have H9 := Hid.mk' h9
    have H10 := Hid.mk' h10
    obtain ⟨CS1, hC1⟩ : ∃ c, c = (s.map B8).toArray := ⟨_, rfl⟩
    obtain ⟨CS2, hC2⟩ : ∃ c, c = (m.map B8).toArray := ⟨_, rfl⟩
    rw [<- hC1, <- hC2] at hnq
    rw [<- hC1] at h9
    rw [<- hC2] at h10
    have HRg9 : Hid (wc.rangeAt g9 0 CS1.toList) := fun j v hv => by
     rw [Nat.zero_add, cell_of_row wc g9 j CS1 _ (0, 0) h9]
     simpa using hv
    have HRg10 : Hid (wc.rangeAt g10 0 CS2.toList) := fun j v hv => by
     rw [Nat.zero_add, cell_of_row wc g10 j CS2 _ (0, 0) h10]
     simpa using hv
    have HSz1 : Hid ((Tryz.prog.info? 142).map (·.size) = some CS1.toList.length) := by show _ = _; rw [hC1, Array.length_toList, List.size_toArray, List.length_map, hsl]; exact size124
    have HSz2 : Hid ((Tryz.prog.info? 142).map (·.size) = some CS2.toList.length) := by show _ = _; rw [hC2, Array.length_toList, List.size_toArray, List.length_map, hml]; exact size124
    have HRW0 := Hid.mk' ((Fr.of_below (fs := []) bb).rw HRw.out (by simp))
    have HPW0 := Hid.mk' (HPx.out.on bb)
    have HFW0 := Hid.mk' (HFx.out.trans (Fr.of_below (fs := []) bb) (by simp))
    have hbz := bb.size
    clear h9 h10 hC1 hC2 HRw HPx HFx HSx HNx e1 e2 bb
    by_cases hsm : s = m
    ·have hsc : M.sec1 s m (M.secs S N ps1 i).2 = (s, (M.secs S N ps1 i).2) := by unfold M.sec1; rw [if_pos hsm]
     have HSec : Hid (M.secs S N ps1 (i + 1) = ((M.secs S N ps1 i).1 ++ s, (M.secs S N ps1 i).2)) := by show _ = _; rw [HSec0.out, hsc]
     have hdq : (!decide (s = m)) = false := by simp [hsm]
     rw [hdq] at hnq
     have HSS := Hid.mk' (sees_sector H9.out hsl)
     have HSl := Hid.mk' hsl
     have HRW := HRW0
     have HPW := HPW0
     have HFW := HFW0
     clear hsm hdq hsc HSec0 hsl hml HRW0 HPW0 HFW0
     have HAp : Hid (∃ v' w', (Builtin.append_ #[54, 54] 54 #[v, .slice (some ⟨g9, 0, none⟩) 64 64]).run Tryz.prog wc = .ok v' w' /\ (Rw w' v' (M.secs S N ps1 (i + 1)).1 /\ (∀ k, v'.ownBlock = some k -> w.heap.size <= k) /\ Picks w' pk B (M.secs S N ps1 (i + 1)).2 /\ Fr [pk] w w')) := by
      obtain ⟨v', w', hr, ho, hg, hbk⟩ := append_bytes wc v _ HRW.out.1 (.slice (some ⟨g9, 0, none⟩) 64 64) s HSS.out (by rw [M.secs_length, HSl.out]; omega)
      have hF' := Fr.of_grown hg
      refine ⟨v', w', hr, ⟨by rw [HSec.out]; exact ho, by rw [M.secs_length]; omega⟩, fun k hk => ?_, by rw [HSec.out]; exact HPW.out.fr hF' (fun hm => by have := HOw.out pk (by simpa using hm); omega) (fun k hk => by have := HOw.out k (by simpa using hk); omega), HFW.out.trans hF' (fun k hk => .inr (HOw.out k (by simpa using hk)))⟩
      rcases hbk with h | h
      ·exact HOw.out k (h ▸ hk)
      ·rw [h] at hk
       have := HFW.out.2.1
       have : wc.heap.size = k := by simpa using hk
       omega
     go_wp2_with (first | (refine wpList_load_mid rfl 142 _ rfl g9 0 rfl CS1.toList _ HRg9.out Tryz.underlying142 rfl HSz1.out ?_) | (refine wpList_load_mid rfl 142 _ rfl g10 0 rfl CS2.toList _ HRg10.out Tryz.underlying142 rfl HSz2.out ?_) | (at_builtin; refine wpList_append_run rfl _ _ 54 54 rfl _ _ rfl rfl HAp.out ?_; rintro v5 w5 ⟨ho5, hn5, hp5, hf5⟩))
     go_step3
     refine ⟨rfl, ⟨i + 1, _, _, _, _, _, _, _, _, _, _, _, _, _, _, _, _, _, _, _, _, _, _, _, _, _, _, _, _, _, _, _, _, _, _, _, _, _, _, _, _, _, _, _, _, _, _, _, _, _, _, _, _, _, _, _, _, _, _, _, _, _, _, _, _, _, _, _, _, _, _, _, _, _, _, _, rfl, by have := HH.out; omega, by have := HH.out; omega, ho5, hn5, hp5, hf5⟩, ?_⟩
     show E + 64 - (intOf (Value.int _ _)).toNat < E + 64 - (intOf (Value.int _ _)).toNat
     simp only [intOf]
     omega
    ·have hsc : M.sec1 s m (M.secs S N ps1 i).2 = (m.take (M.kept ((M.secs S N ps1 i).2.headD 0)) ++ s.drop (M.kept ((M.secs S N ps1 i).2.headD 0)), (M.secs S N ps1 i).2.tail) := by unfold M.sec1; rw [if_neg hsm]
     have hdq : (!decide (s = m)) = true := by simp [hsm]
     rw [hdq] at hnq
     have HNX := Hid.mk' (next_any pk B _ wc HPW0.out)
     have hPBh := hPBi.head
     obtain ⟨hd, hhd⟩ : ∃ x, x = (M.secs S N ps1 i).2.headD 0 := ⟨_, rfl⟩
     rw [<- hhd] at HNX hPBh hsc
     clear hsm hdq hhd hPBi
     go_wp2_with (first | (refine wpList_load_mid rfl 142 _ rfl g9 0 rfl CS1.toList _ HRg9.out Tryz.underlying142 rfl HSz1.out ?_) | (refine wpList_load_mid rfl 142 _ rfl g10 0 rfl CS2.toList _ HRg10.out Tryz.underlying142 rfl HSz2.out ?_))
     refine HNX.out.mono ?_
     rintro e w1 ⟨rfl, hP1, hF1⟩
     have h9 := (hF1.2.2 g9 (row_lt H9.out) (by simp; omega)).trans H9.out
     have h10 := (hF1.2.2 g10 (row_lt H10.out) (by simp; omega)).trans H10.out
     have HRW1 := Hid.mk' (hF1.rw HRW0.out (fun k hk => by have := HOw.out k hk; simp; omega))
     have HP1 := Hid.mk' hP1
     have HF1 := Hid.mk' (HFW0.out.trans hF1 (by simp))
     clear hP1 hF1 HRW0 HPW0 HFW0 H9 H10 HRg9 HRg10 HNX
     go_wp2_with fail
     refine (kept_any _ hPBh _).mono ?_
     rintro e w2 ⟨rfl, q2, hw2⟩
     have hF2 : Fr [pk] w1 w2 := by rw [hw2]; exact (Fr.refl [pk] w1).drewN q2
     replace h9 := (hF2.2.2 g9 (row_lt h9) (by simp; omega)).trans h9
     replace h10 := (hF2.2.2 g10 (row_lt h10) (by simp; omega)).trans h10
     replace HRW1 := Hid.mk' (hF2.rw HRW1.out (fun k hk => by have := HOw.out k hk; simp; omega))
     replace HP1 : Hid (Picks w2 pk B (M.secs S N ps1 i).2.tail) := by rw [hw2]; exact HP1.out.fr ((Fr.refl [] w1).drewN q2) (by simp) (by simp)
     replace HF1 := Hid.mk' (HF1.out.trans hF2 (by simp))
     clear hw2 hF2
     have hkl := M.kept_le hd
     generalize M.kept hd = kp at *
     have k1 : (kp : Int) <= 64 := by omega
     have k2 : (0 : Int) <= (kp : Int) := by omega
     obtain ⟨w3, hcp, h93, hF3⟩ := copy_sectors (w := w2.drew) (g := g9) (h := g10) h9 h10 hsl hml hkl
     have HSec : Hid (M.secs S N ps1 (i + 1) = ((M.secs S N ps1 i).1 ++ (m.take kp ++ s.drop kp), (M.secs S N ps1 i).2.tail)) := by show _ = _; rw [HSec0.out, hsc]
     have hl3 : (m.take kp ++ s.drop kp).length = 64 := by simp [hsl, hml]; omega
     have HSS := Hid.mk' (sees_sector h93 hl3)
     have HSl := Hid.mk' hl3
     have hF3' : Fr [g9] w2 w3 := hF3
     have hlt9 : w.heap.size <= g9 := by omega
     have HRW := Hid.mk' (hF3'.rw HRW1.out (fun k hk hm => by (have := HOlt.out k hk); simp at hm; omega))
     have HPW := Hid.mk' (HP1.out.fr hF3' (by simp; omega) (by simp; omega))
     have HFW := Hid.mk' (HF1.out.trans hF3' (by simp; omega))
     clear h9 h10 h93 hF3 hF3' HRW1 HP1 HF1 hsc hl3 HSec0 hsl hml
     go_upto_region 12 with fail
     go_region
     have HAp : Hid (∃ v' w', (Builtin.append_ #[54, 54] 54 #[v, .slice (some ⟨g9, 0, none⟩) 64 64]).run Tryz.prog w3 = .ok v' w' /\ (Rw w' v' (M.secs S N ps1 (i + 1)).1 /\ (∀ k, v'.ownBlock = some k -> w.heap.size <= k) /\ Picks w' pk B (M.secs S N ps1 (i + 1)).2 /\ Fr [pk] w w')) := by
      obtain ⟨v', w', hr, ho, hg, hbk⟩ := append_bytes w3 v _ HRW.out.1 (.slice (some ⟨g9, 0, none⟩) 64 64) (m.take kp ++ s.drop kp) HSS.out (by rw [M.secs_length, HSl.out]; omega)
      have hF' := Fr.of_grown hg
      refine ⟨v', w', hr, ⟨by rw [HSec.out]; exact ho, by rw [M.secs_length]; omega⟩, fun k hk => ?_, by rw [HSec.out]; exact HPW.out.fr hF' (fun hm => by have := HOw.out pk (by simpa using hm); omega) (fun k hk => by have := HOw.out k (by simpa using hk); omega), HFW.out.trans hF' (fun k hk => .inr (HOw.out k (by simpa using hk)))⟩
      rcases hbk with h | h
      ·exact HOw.out k (h ▸ hk)
      ·rw [h] at hk
       have := HFW.out.2.1
       have : w3.heap.size = k := by simpa using hk
       omega
     go_wp2_with (first | (at_builtin; refine wpList_append_run rfl _ _ 54 54 rfl _ _ rfl rfl HAp.out ?_; rintro v5 w5 ⟨ho5, hn5, hp5, hf5⟩))
     go_step3
     refine ⟨rfl, ⟨i + 1, _, _, _, _, _, _, _, _, _, _, _, _, _, _, _, _, _, _, _, _, _, _, _, _, _, _, _, _, _, _, _, _, _, _, _, _, _, _, _, _, _, _, _, _, _, _, _, _, _, _, _, _, _, _, _, _, _, _, _, _, _, _, _, _, _, _, _, _, _, _, _, _, _, _, _, rfl, by have := HH.out; omega, by have := HH.out; omega, ho5, hn5, hp5, hf5⟩, ?_⟩
     show E + 64 - (intOf (Value.int _ _)).toNat < E + 64 - (intOf (Value.int _ _)).toNat
     simp only [intOf]
     omega
end Go.Proofs.YtjimhikfmccicaaGreat
