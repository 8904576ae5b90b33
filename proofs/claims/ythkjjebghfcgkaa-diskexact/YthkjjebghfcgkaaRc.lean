/-
  The contract of the reference's Crash.
-/
import Derived.Test.YthkjjebghfcgkaaRs
import Derived.Test.YthkjjebghfcgkaaCs
namespace Go.Proofs.Ythkjjebghfcgkaa
open Go.RowKit Go.Maps

/-- What stands at a sector of the reference's Crash. -/
def RsI (wf : World) (pk B n0 : Nat) (S N : List Nat) (ps : List Int) (i : Nat) (t : Value) (wr : World) : Prop :=
  wr.ownsRow 0 5 1 t (M.secs S N ps i).1.length ((M.secs S N ps i).1.map B8) ∧ (∀ q, t.ownBlock = some q → wf.heap.size ≤ q) ∧ RPk wr pk B (n0 + i) (M.secs S N ps i).2 ∧ Fr [pk] wf wr
theorem RsI.next {wf wr w3 : World} {pk B n0 i : Nat} {S N : List Nat} {ps : List Int} {t v' : Value} (h : RsI wf pk B n0 S N ps i t wr) (hi : i ≤ 100000) (hpk : pk < wf.heap.size) (hF : Fr [pk] wr w3) (hv : Sees w3 v' (M.sec1 (M.sz (S.drop (64 * i)) 64) (M.sz (N.drop (64 * i)) 64) (M.secs S N ps i).2).1) (hP : RPk w3 pk B (n0 + i + 1) (M.sec1 (M.sz (S.drop (64 * i)) 64) (M.sz (N.drop (64 * i)) 64) (M.secs S N ps i).2).2) (hB : B ≤ wf.heap.size) :
    ∃ v5 w5, (Builtin.append_ #[40, 40] 40 #[t, v']).run Try.prog w3 = .ok v5 w5 ∧ RsI wf pk B n0 S N ps (i + 1) v5 w5 := by
  obtain ⟨h1, h2, h3, h4⟩ := h
  have o3 := hF.owns h1 (fun q hq hm => by have := h2 q hq; simp at hm; omega)
  have hl1 := M.secs_length S N ps i
  have hl2 := M.sec1_length (s := M.sz (S.drop (64 * i)) 64) (m := M.sz (N.drop (64 * i)) 64) (M.sz_length _ _) (M.sz_length _ _) (M.secs S N ps i).2
  obtain ⟨v5, w5, q1, q2, q3, q4⟩ := append_bytes w3 t _ o3 v' _ hv (by omega)
  have hsz := hF.2.1
  have hsz4 := h4.2.1
  refine ⟨v5, w5, q1, q2, fun q hq => ?_, ?_, ?_⟩
  · rcases q4 with e | e
    · exact h2 q (by rw [← e]; exact hq)
    · rw [e] at hq
      have : w3.heap.size = q := by simpa using hq
      omega
  · exact hP.fr (Fr.of_grown q3) (fun hm => by have := h2 pk (by simpa using hm); omega) (fun q hq => by have := h2 q (by simpa using hq); omega)
  · exact (h4.trans hF (fun k hk => .inl hk)).trans (Fr.of_grown q3) (fun q hq => .inr (h2 q (by simpa using hq)))

/-- What stands at a round of the reference's Crash. -/
def RcI (w : World) (L : List FR) (ps : List Int) (k : Nat) (t : Value) (R : List GR) (wr : World) : Prop :=
  R.length = k ∧ Outs wr (w.heap.size + 1) t R ∧ R.map gab = (crs L ps k).1 ∧ RPk wr w.heap.size w.heap.size (k * 100000) (crs L ps k).2 ∧ Below w.heap.size w wr
theorem Sees.keep {w w' : World} {pk : Nat} {a : Option Addr} {n c : Nat} {l : List Nat} (h : Sees w (.slice a n c) l) (hpk : w.heap.size ≤ pk) {wf : World} (hb : Below w.heap.size w wf) (hF : Fr [pk] wf w') : Sees w' (.slice a n c) l :=
  (hF.sees1 (h.below hb) (fun x m c' e hn hm => by
    obtain ⟨rfl, rfl, _⟩ := by simpa using e
    obtain ⟨⟨a', cap', e', _⟩, _⟩ := id h
    obtain ⟨_, hl, _⟩ := by simpa using e'
    have := h.lt (by omega)
    simp at hm
    omega))
theorem len1_cases (S N : List Nat) (ps : List Int) : (N.length = S.length ∧ M.len1 S N ps = (S.length, ps)) ∨ (N.length ≠ S.length ∧ (M.len1 S N ps) = (if ps.headD 0 % 2 = 1 then N.length else S.length, ps.tail)) := by
  unfold M.len1
  by_cases h : N.length = S.length
  · left; simp [h]
  · right; simp [h]

set_option maxRecDepth 100000 in
set_option maxHeartbeats 4000000 in
theorem rcrash_any {w : World} {Rb : Nat} {v tv : Value} {L : List FR} {T : List (Int × Int)} {s : Int} {off : Bool} (h : RD w Rb v tv L T s off) (pv : Value) (ps : List Int) (hI : Ins w pv ps) (hlt : ∀ a n c, pv = .slice (some a) n c → 1 ≤ n → a.block < w.heap.size) (hPB : M.PB ps) (hpl : ps.length ≤ 1000000) :
    Calls Try.prog 45 #[.pointer (some ⟨Rb, 0, none⟩), pv] w fun e w' => ∃ t R, e = .returned t ∧ Outs w' (w.heap.size + 1) t R ∧ R.map gab = (crs L ps L.length).1 ∧ Below w.heap.size w w' := by
  obtain ⟨c0, _, _, _, _⟩ := h.cells
  have HD := Hid.mk' h
  have hl16 := h.2.1.2
  obtain ⟨pa, pc, rfl, _, _, _⟩ := id hI
  have hP0 : RPk (w.alloc (.cells #[.slice pa ps.length pc, .int .i64 0] 114)) w.heap.size w.heap.size 0 ps := by
    have hnew := heap_alloc_new w (.cells #[.slice pa ps.length pc, .int .i64 0] 114)
    refine ⟨_, ps, 0, Nat.le_refl _, rfl, by simp, by simp, by simp only [World.frozen?, hnew]; rfl, ⟨hI.on1 (Fr.of_alloc (fs := []) w _) (by simp), hpl⟩, fun a n c e hn => ?_⟩
    have := hlt a n c e hn
    omega
  obtain ⟨va, vc, rfl, _, _, hrow⟩ := h.files
  have hw1 : Below w.heap.size w (w.alloc (.cells #[.slice pa ps.length pc, .int .i64 0] 114)) := (Below.refl _ _).alloc (Nat.le_refl _) _
  have HI0 : Hid (RcI w L ps 0 (.slice none 0 0) [] (w.alloc (.cells #[.slice pa ps.length pc, .int .i64 0] 114))) :=
    ⟨rfl, ⟨World.ownsRow_nil _ _ _ _, by simp, by simp⟩, rfl, by rw [Nat.zero_mul]; exact hP0, hw1⟩
  clear hI hlt hP0 hw1 h
  go_enter Try.func45, Try.ntmps45
  go_wp2
  go_loopw [6, 7] (fun t i wr => ∃ (k : Nat) (R : List GR), k ≤ L.length ∧ i = .int .i64 k ∧ (∃ a c, t = .slice a k c) ∧ RcI w L ps k t R wr) (fun _ i _ => L.length - (intOf i).toNat)
  case atStart => exact ⟨0, [], by omega, rfl, ⟨_, _, rfl⟩, HI0.out⟩
  case round =>
    clear HI0
    obtain ⟨k, R, hk, rfl, ⟨ta, tc, rfl⟩, hRl, hO, hRm, hPk, hb⟩ := hrel
    have hsz := hb.size
    replace c0 := cell_on hb c0
    by_cases hlt : k < L.length
    · obtain ⟨g, rfl, hrw⟩ := hrow (by omega)
      obtain ⟨r0, r1, r2, _⟩ := hrw k hlt
      replace r0 := cell_on hb r0
      replace r1 := cell_on hb r1
      replace r2 := cell_on hb r2
      obtain ⟨p1, p2⟩ := HD.out.2.2.1 _ (getD_mem L hlt)
      obtain ⟨a1, c1, hsv, _, _⟩ := p1.slice
      obtain ⟨a2, c2, hnv, _, _⟩ := p2.slice
      have s1 := p1.sees
      have s2 := p2.sees
      have q5 := p1.2
      have q6 := p2.2
      rw [hsv] at r1 s1
      rw [hnv] at r2 s2
      have hcs : (crs L ps (k + 1)) = ((crs L ps k).1 ++ [((L.getD k z0).nm, (M.crash (L.getD k z0).safe (L.getD k z0).seen (crs L ps k).2).1)], (M.crash (L.getD k z0).safe (L.getD k z0).seen (crs L ps k).2).2) := rfl
      have HPb := Hid.mk' (crs_pb L hPB k)
      clear p1 p2 hsv hnv hrw hrow
      generalize (L.getD k z0).nm = nm at *
      generalize (L.getD k z0).safe = S at *
      generalize (L.getD k z0).seen = N at *
      generalize (crs L ps k).2 = q0 at *
      obtain ⟨wf, hwf⟩ : ∃ wf, wf = wr.alloc (.cells #[.string nm, .slice a1 S.length c1, .slice a2 N.length c2] 80) := ⟨_, rfl⟩
      have hw1 : Below wr.heap.size wr wf := by rw [hwf]; exact (Below.refl _ _).alloc (Nat.le_refl _) _
      have hb1 : Below w.heap.size w wf := by rw [hwf]; exact hb.alloc hsz _
      have z0 : wf.cell? ⟨wr.heap.size, 0, none⟩ = some (.string nm) := by rw [hwf]; simp
      have k1 : wf.cell? ⟨wr.heap.size, 1, none⟩ = some (.slice a1 S.length c1) := by rw [hwf]; simp
      have k2 : wf.cell? ⟨wr.heap.size, 2, none⟩ = some (.slice a2 N.length c2) := by rw [hwf]; simp
      have hzf : wr.heap.size < wf.heap.size := by rw [hwf]; simp
      have HO := Hid.mk' (hO.fr (Fr.of_below (fs := []) hw1) (by simp))
      have HRm := Hid.mk' hRm
      have HTL : Hid (∀ q, (Value.slice ta k tc).ownBlock = some q → q ≠ wr.heap.size) := fun q hq => by have := (hO.lt q hq).1; omega
      have HCs := Hid.mk' hcs
      have HB1 := Hid.mk' hb1
      have HPk := Hid.mk' (hPk.on hw1)
      have hl1 : w.heap.size < wr.heap.size := by
        obtain ⟨_, _, _, _, _, h1, _⟩ := hPk
        exact World.block_lt_of_cell? _ _ h1
      have HSs : Hid (∀ w', Fr [w.heap.size] wf w' → Sees w' (.slice a1 S.length c1) S) := fun w' hF => s1.keep (Nat.le_refl _) hb1 hF
      have HNs : Hid (∀ w', Fr [w.heap.size] wf w' → Sees w' (.slice a2 N.length c2) N) := fun w' hF => s2.keep (Nat.le_refl _) hb1 hF
      have HCn : Hid (M.cnt S N ≤ 70000) := by show _ ≤ _; unfold M.cnt; omega
      clear hO hRm hcs hb1 hPk s1 s2 hb
      go_upto_region 7 with fail
      rw [← hwf]
      clear hwf r0 r1 r2 c0 hw1
      go_upto_region 8 with fail
      go_cut [47] from 35 to 47 (fun b wx => ∃ c : Bool, b = .bool c ∧ (M.len1 S N q0).1 = (if c = true then N.length else S.length) ∧ RPk wx w.heap.size w.heap.size (k * 100000 + 1) (M.len1 S N q0).2 ∧ Fr [w.heap.size] wf wx)
      case first =>
        rcases len1_cases S N q0 with ⟨he, hl⟩ | ⟨hne, hl⟩
        · have t1 : ((N.length : Int) != (S.length : Int)) = false := by rw [he]; simp
          have HL := Hid.mk' hl
          clear hl he
          go_wp2_with fail
          go_meet
          refine ⟨false, rfl, ?_, ?_, Fr.refl _ _⟩
          · rw [HL.out]; rfl
          · rw [HL.out]; exact HPk.out.more (by omega)
        · have t1 : ((N.length : Int) != (S.length : Int)) = true := by
            rw [bne_iff_ne]
            omega
          have HL := Hid.mk' hl
          have HNx := Hid.mk' (rnext_any w.heap.size w.heap.size (k * 100000) q0 wf HPk.out (by omega))
          obtain ⟨x, hx⟩ : ∃ x, q0.headD 0 = x := ⟨_, rfl⟩
          rw [hx] at HL HNx
          clear hl hne hx
          go_wp2_with fail
          refine HNx.out.mono ?_
          rintro e w2 ⟨rfl, hP2, hF2⟩
          have HP2 := Hid.mk' hP2
          have HF2 := Hid.mk' hF2
          clear hP2 hF2 HNx
          go_wp2_with fail
          refine (rmod2_any x w2).mono ?_
          rintro e w3 ⟨rfl, hw⟩
          obtain rfl := hw.symm
          clear hw
          by_cases hx1 : x % 2 = 1
          · have HX : Hid ((if x % 2 = 1 then N.length else S.length) = N.length) := by show _ = _; rw [if_pos hx1]
            have t2 : (x % 2 == 1) = true := by rw [hx1]; rfl
            clear hx1
            go_wp2_with fail
            go_meet
            refine ⟨true, rfl, ?_, ?_, HF2.out⟩
            · rw [HL.out]; exact HX.out
            · rw [HL.out]; exact HP2.out
          · have HX : Hid ((if x % 2 = 1 then N.length else S.length) = S.length) := by show _ = _; rw [if_neg hx1]
            have t2 : (x % 2 == 1) = false := by rw [beq_eq_false_iff_ne]; exact hx1
            clear hx1
            go_wp2_with fail
            go_meet
            refine ⟨false, rfl, ?_, ?_, HF2.out⟩
            · rw [HL.out]; exact HX.out
            · rw [HL.out]; exact HP2.out
      case rest =>
        obtain ⟨cB, rfl, hlen, hP2, hF2⟩ := hcut
        generalize wc = wz at *
        have HLn := Hid.mk' hlen
        have HP2 := Hid.mk' hP2
        have HF2 := Hid.mk' hF2
        have e1 := hF2.cell k1 (by simp; omega)
        have e2 := hF2.cell k2 (by simp; omega)
        clear hlen hP2 hF2 HPk
        go_upto_if 47 with fail
        go_cut [9] from 48 to 50 (fun n9 wx => n9 = .int .i64 ((M.len1 S N q0).1 : Nat) ∧ wx = wz)
        case first =>
          cases cB
          · go_wp2_with fail
            go_meet
            exact ⟨by rw [HLn.out]; rfl, rfl⟩
          · go_wp2_with fail
            go_meet
            exact ⟨by rw [HLn.out]; rfl, rfl⟩
        case rest =>
          obtain ⟨rfl, hw⟩ := hcut
          obtain rfl := hw.symm
          clear hw HLn
          obtain ⟨nn, hnn⟩ : ∃ n, (M.len1 S N q0).1 = n := ⟨_, rfl⟩
          obtain ⟨q1, hq1⟩ : ∃ q, (M.len1 S N q0).2 = q := ⟨_, rfl⟩
          rw [hq1] at HP2
          rw [hnn]
          have HCr : Hid (M.crash S N q0 = (M.sz (M.secs S N q1 (M.cnt S N)).1 nn, (M.secs S N q1 (M.cnt S N)).2)) := by show _ = _; unfold M.crash; rw [hq1, hnn]
          have hnl : nn ≤ 4194304 := by
            rw [← hnn]
            unfold M.len1
            split
            · exact q5
            · simp only; split <;> assumption
          have HPB1 : Hid (M.PB q1) := by rw [← hq1]; exact M.len1_pb S N HPb.out
          clear hnn hq1
          obtain ⟨E, hE⟩ : ∃ E, max S.length N.length = E := ⟨_, rfl⟩
          have hE4 : E ≤ 4194304 := by omega
          have HE := Hid.mk' hE
          clear hE
          go_upto_region 10 with fail
          go_cut [10] from 51 to 57 (fun x wx => x = .int .i64 (E : Nat) ∧ wx = wz)
          case first =>
            by_cases hlts : (S.length : Int) < (N.length : Int)
            · have HX : Hid (E = N.length) := by have := HE.out; show _ = _; omega
              go_wp2_with fail
              go_meet
              exact ⟨by rw [HX.out], rfl⟩
            · have HX : Hid (E = S.length) := by have := HE.out; show _ = _; omega
              go_wp2_with fail
              go_meet
              exact ⟨by rw [HX.out], rfl⟩
          case rest =>
            obtain ⟨rfl, hw⟩ := hcut
            obtain rfl := hw.symm
            clear hw e1 e2
            generalize wr.heap.size = fb at *
            have HFb : Hid (fb ∉ [w.heap.size]) := by show _ ∉ _; simp; omega
            have HR0 : Hid (RsI wf w.heap.size w.heap.size (k * 100000 + 1) S N q1 0 (.slice none 0 0) wz) := ⟨World.ownsRow_nil _ _ _ _, (fun q hq => by simp [Value.ownBlock] at hq), HP2.out, HF2.out⟩
            clear HP2 HF2
            have HZw : Hid (w.heap.size < fb ∧ fb < wf.heap.size) := ⟨hl1, hzf⟩
            have hCE : M.cnt S N = (E + 63) / 64 := by have := HE.out; unfold M.cnt; omega
            obtain ⟨n1, hn1⟩ : ∃ n, S.length = n := ⟨_, rfl⟩
            obtain ⟨n2, hn2⟩ : ∃ n, N.length = n := ⟨_, rfl⟩
            rw [hn1] at k1 HSs q5
            rw [hn2] at k2 HNs q6
            have HN1 := Hid.mk' hn1
            have HN2 := Hid.mk' hn2
            obtain ⟨C, hC⟩ : ∃ C, M.cnt S N = C := ⟨_, rfl⟩
            rw [hC] at hCE HCn HCr
            have hC7 := HCn.out
            clear hn1 hn2 hC HE
            go_wp2_with fail
            go_loopw [11, 12] (fun t u wx => ∃ i : Nat, i ≤ C ∧ u = .int .i64 ((64 * i : Nat) : Int) ∧ (∃ a n c, t = .slice a n c) ∧ RsI wf w.heap.size w.heap.size (k * 100000 + 1) S N q1 i t wx) (fun _ u _ => E + 64 - (intOf u).toNat)
            case atStart => exact ⟨0, by omega, rfl, ⟨_, _, _, rfl⟩, HR0.out⟩
            case round =>
              clear HR0
              obtain ⟨i, hi, rfl, ⟨ra, rn, rc, rfl⟩, hR⟩ := hrel
              have HR := Hid.mk' hR
              have bF := Hid.mk' (show Fr [w.heap.size] wf _ from hR.2.2.2)
              clear hR
              obtain ⟨p, hp⟩ : ∃ p, 64 * i = p := ⟨_, rfl⟩
              rw [hp]
              by_cases hpE : p < E
              · have hpI : (p : Int) < (E : Int) := by omega
                have HNx := Hid.mk' (fun (w3 : World) (v' : Value) (hF : Fr [w.heap.size] wr w3) => HR.out.next (w3 := w3) (v' := v') (by omega) (by omega) hF)
                have HPq := Hid.mk' (HR.out.2.2.1)
                have HPBi := Hid.mk' (M.secs_pb S N HPB1.out i)
                rw [hp] at HNx
                have hC2 : i < C := by omega
                have hp8 : p ≤ 8388608 := by omega
                have HPp := Hid.mk' hp
                clear hp
                go_upto_region 15 with fail
                have HZs : Hid (wf.heap.size ≤ wr.heap.size) := bF.out.2.1
                have fresh : True := trivial
                have bB := Hid.mk' (show Below wr.heap.size wr wr.drew from (Below.refl _ _).drew)
                have hS := Hid.mk' (show (fun w' : World => w'.cell? ⟨fb, 1, none⟩ = some (.slice a1 n1 c1) ∧ w'.cell? ⟨fb, 2, none⟩ = some (.slice a2 n2 c2)) wr.drew from ⟨bF.out.cell k1 HFb.out, bF.out.cell k2 HFb.out⟩)
                go_region_held3 (fun w' : World => w'.cell? ⟨fb, 1, none⟩ = some (.slice a1 n1 c1) ∧ w'.cell? ⟨fb, 2, none⟩ = some (.slice a2 n2 c2)) (first | exact hS.out | assumption | go_keep)
                  (first
                    | (go_at_call 73; clear fresh; refine (rpiece_any _ S p _ (HSs.out _ (bF.out.trans (Fr.of_below (fs := []) bB.out) (fun k hk => by cases hk))) (by rw [HN1.out]; omega) hp8).mono ?_; rintro e w1 ⟨g1, rfl, r1, hg1, hb1⟩; replace bB := Hid.mk' (bB.out.trans (hb1.mono bB.out.size)); have hS := Hid.mk' (show (fun w' : World => w'.cell? ⟨fb, 1, none⟩ = some (.slice a1 n1 c1) ∧ w'.cell? ⟨fb, 2, none⟩ = some (.slice a2 n2 c2)) w1 from ⟨cell_on bB.out (bF.out.cell k1 HFb.out), cell_on bB.out (bF.out.cell k2 HFb.out)⟩); have HG1 : Hid (wr.heap.size ≤ g1) := (Nat.le_trans (by simp) hg1); have one : True := trivial; clear hb1 hg1)
                    | (go_at_call 73; clear one; refine (rpiece_any _ N p _ (HNs.out _ (bF.out.trans (Fr.of_below (fs := []) bB.out) (fun k hk => by cases hk))) (by rw [HN2.out]; omega) hp8).mono ?_; rintro e w2 ⟨g2, rfl, r2, hg2, hb2⟩; have HG2 : Hid (wr.heap.size ≤ g2) := Nat.le_trans bB.out.size hg2; replace r1 := (Fr.of_below (fs := []) hb2).rw r1 (fun _ _ hk => by cases hk); replace bB := Hid.mk' (bB.out.trans (hb2.mono bB.out.size)); have hS := Hid.mk' (show (fun w' : World => w'.cell? ⟨fb, 1, none⟩ = some (.slice a1 n1 c1) ∧ w'.cell? ⟨fb, 2, none⟩ = some (.slice a2 n2 c2)) w2 from ⟨cell_on bB.out (bF.out.cell k1 HFb.out), cell_on bB.out (bF.out.cell k2 HFb.out)⟩); clear hb2 hg2)
                    | (go_at_call 72; refine (rsector_any g1 g2 w.heap.size w.heap.size (k * 100000 + 1 + i) _ _ _ _ r1.sees r2.sees (HPq.out.on bB.out) (by omega) HPBi.out (by have := HG1.out; have := HZw.out; have := HZs.out; omega) (by have := HG2.out; have := HZw.out; have := HZs.out; omega) (M.sz_length _ _) (M.sz_length _ _)).mono ?_; rintro e w3 ⟨v3, rfl, hs3, hP3, hF3⟩; have HF3 := Hid.mk' (show Fr [w.heap.size] wr w3 from (Fr.of_below (fs := [w.heap.size]) bB.out).trans hF3 (fun k hk => .inl hk)); have HA3 := Hid.mk' (HNx.out w3 v3 HF3.out hs3 hP3 (by have := HZw.out; omega)); have hS := Hid.mk' (show (fun w' : World => w'.cell? ⟨fb, 1, none⟩ = some (.slice a1 n1 c1) ∧ w'.cell? ⟨fb, 2, none⟩ = some (.slice a2 n2 c2)) w3 from ⟨HF3.out.cell (bF.out.cell k1 HFb.out) HFb.out, HF3.out.cell (bF.out.cell k2 HFb.out) HFb.out⟩); clear hs3 hP3 hF3)
                    | (refine step_append_ex (by rfl) _ _ 40 (by rfl) (.slice ra rn rc) v3 (by rfl) (by rfl) HA3.out ?_; rintro v5 w5 h5; have hS := Hid.mk' (show (fun w' : World => w'.cell? ⟨fb, 1, none⟩ = some (.slice a1 n1 c1) ∧ w'.cell? ⟨fb, 2, none⟩ = some (.slice a2 n2 c2)) w5 from ⟨h5.2.2.2.cell k1 HFb.out, h5.2.2.2.cell k2 HFb.out⟩)))
                all_goals
                  obtain ⟨xa, xn, xc, rfl⟩ : ∃ a n c, v5 = .slice a n c := by
                    rcases h5.1.2 with ⟨h, _⟩ | ⟨g, cap, cur, h, _⟩
                    · exact ⟨_, _, _, h⟩
                    · exact ⟨_, _, _, h⟩
                  have HR5 := Hid.mk' h5
                  clear h5 HNx HPq HPBi HR bF HA3 HF3 hS r1 r2 bB
                  go_wp2
                  go_roundw
                  case rel => exact ⟨i + 1, by omega, by have := HPp.out; go_num, ⟨_, _, _, rfl⟩, HR5.out⟩
                  case measure => simp [intOf]; omega
              · obtain rfl : i = C := by omega
                have HFz := bF
                have HPz := Hid.mk' HR.out.2.2.1
                have HSl := Hid.mk' (owns_sees' HR.out.1 (by rw [M.secs_length]; omega))
                have z0 := bF.out.cell z0 HFb.out
                have HCut := Hid.mk' (rcut_any _ _ nn wr.drew (HSl.out.drew) (by rw [M.secs_length]; omega) hnl)
                rw [show M.sz (M.secs S N q1 i).1 nn = (M.crash S N q0).1 by rw [HCr.out]] at HCut
                rw [show (M.secs S N q1 i).2 = (M.crash S N q0).2 by rw [HCr.out]] at HPz
                have hzs : wf.heap.size ≤ wr.heap.size := HFz.out.2.1
                clear HR HSl hp HSs HNs HCr HPB1 k1 k2
                go_wp2_with fail
                refine wp_region_held_drew (S := (fun w' : World => w'.cell? ⟨fb, 0, none⟩ = some (.string nm))) (by kernel_rfl) (z0) (fun hS => ?_)
                refine wpAnyH_take (i := 0) (v := ?_) rfl (by kernel_rfl) (by kernel_rfl) (by kernel_rfl) (fun _ _ _ h => h) (Or.inl ⟨by rfl, ?_⟩) hS ?_
                rotate_left
                · (intro w hSw; (try dsimp only at hSw); go_simp; try (with_reducible rfl))
                try simp only [Act.put, List.setIfInBounds_toArray]
                refine wpAnyH_take (i := 1) (v := ?_) rfl (by kernel_rfl) (by kernel_rfl) (by kernel_rfl) (fun _ _ _ h => h) (Or.inl ⟨by rfl, ?_⟩) hS ?_
                rotate_left
                · (intro w hSw; (try dsimp only at hSw); go_simp; try (with_reducible rfl))
                try simp only [Act.put]
                refine wpAnyH_take (i := 2) (v := ?_) rfl (by kernel_rfl) (by kernel_rfl) (by kernel_rfl) (fun _ _ _ h => h) (Or.inl ⟨by rfl, ?_⟩) hS ?_
                rotate_left
                · (intro w hSw; (try dsimp only at hSw); go_simp; try (with_reducible rfl))
                try simp only [Act.put]
                refine wpAnyH_take (i := 3) (v := ?_) rfl (by kernel_rfl) (by kernel_rfl) (by kernel_rfl) (fun _ _ _ h => h) (Or.inl ⟨by rfl, ?_⟩) hS ?_
                rotate_left
                · (intro w hSw; (try dsimp only at hSw); go_simp; try (with_reducible rfl))
                try simp only [Act.put]
                refine wpAnyH_take (i := 4) (v := ?_) rfl (by kernel_rfl) (by kernel_rfl) (by kernel_rfl) (fun _ _ _ h => h) (Or.inl ⟨by rfl, ?_⟩) hS ?_
                rotate_left
                · (intro w hSw; (try dsimp only at hSw); go_simp; try (with_reducible rfl))
                try simp only [Act.put]
                refine wpAnyH_ready (rs := [5]) (by kernel_rfl) (by simp) ?_
                refine (AllReadyH.cons rfl (fun K hK => ?_) AllReadyH.nil)
                go_simp
                go_wp2_with (go_at_call 68; refine HCut.out.mono ?_; rintro e' w3 ⟨v3, rfl, r3, n3, b3⟩; obtain ⟨a3, x3, rfl, _, _⟩ := r3.slice; replace b3 : Below wr.heap.size wr w3 := (Below.refl wr.heap.size wr).drew.trans b3; replace n3 : ∀ k, (Value.slice a3 (M.crash S N q0).1.length x3).ownBlock = some k → wr.heap.size ≤ k := n3)
                refine hK.out _ _ (cell_on b3 z0) (fun hS => ?_)
                clear hK K
                try simp only [Act.put, List.setIfInBounds_toArray, List.set_cons_zero, List.set_cons_succ]
                refine wpAnyH_take (i := 6) (v := ?_) rfl (by kernel_rfl) (by kernel_rfl) (by kernel_rfl) (fun _ _ _ h => h) (Or.inl ⟨by rfl, ?_⟩) hS ?_
                rotate_left
                · (intro w hSw; (try dsimp only at hSw); go_simp; try (with_reducible rfl))
                try simp only [Act.put, List.setIfInBounds_toArray]
                refine wpAnyH_ready (rs := [7]) (by kernel_rfl) (by simp) ?_
                refine (AllReadyH.cons rfl (fun K hK => ?_) AllReadyH.nil)
                go_simp
                have b4 := (Below.refl w3.heap.size w3).alloc (Nat.le_refl _) (.cells #[.string nm, .slice a3 (M.crash S N q0).1.length x3] 46)
                refine hK.out _ _ (cell_on b4 hS) (fun hS => ?_)
                clear hK K
                try simp only [Act.put, List.setIfInBounds_toArray, List.set_cons_zero, List.set_cons_succ]
                refine wpAnyH_ready (rs := [8]) (by kernel_rfl) (by simp) ?_
                refine (AllReadyH.cons rfl (fun K hK => ?_) AllReadyH.nil)
                subst hRl
                refine step_append_ex (by rfl) _ _ 22 (by rfl) _ _ (by rfl) (by rfl) (put_gr HO.out (by omega) (by omega) (Nat.lt_succ_self w.heap.size) (HFz.out.trans (Fr.of_below (fs := []) b3) (fun k hk => by cases hk)) r3 (fun q hq => Nat.le_trans HFz.out.2.1 (n3 q hq)) nm) ?_
                rintro v5 w5 ⟨⟨a5, x5, rfl⟩, ho5, hf5⟩
                refine hK.out _ _ (hf5.cell (cell_on b3 z0) (fun hm => HTL.out _ (by simpa using hm) rfl)) (fun hS => ?_)
                clear hK K
                try simp only [Act.put, List.setIfInBounds_toArray]
                refine wpAnyH_take (i := 9) (v := ?_) rfl (by kernel_rfl) (by kernel_rfl) (by kernel_rfl) (fun _ _ _ h => h) (Or.inl ⟨by rfl, ?_⟩) hS ?_
                rotate_left
                · (intro w hSw; (try dsimp only at hSw); go_simp; try (with_reducible rfl))
                try simp only [Act.put]
                refine wpAnyH_done (by kernel_rfl) ?_ _
                have HI5 : Hid (RcI w L ps (R.length + 1) (.slice a5 (R.length + 1) x5) (R ++ [(nm, .slice a3 (M.crash S N q0).1.length x3, (M.crash S N q0).1)]) w5) := by
                  have hft := fun (q : Nat) (hq : (Value.slice ta R.length tc).ownBlock = some q) => (HO.out.lt q hq).2
                  have hzz := HFz.out.2.1
                  have hb3z := b3.size
                  refine ⟨by simp, ho5, by rw [List.map_append, HRm.out, HCs.out]; rfl, ?_, ?_⟩
                  · rw [HCs.out]; exact (((HPz.out.on b3).fr hf5 (fun hm => by have := hft _ (by simpa using hm); omega) (fun q hq => by have := hft q (by simpa using hq); omega)).more (by have := HCn.out; omega))
                  · exact (HB1.out.trans (((HFz.out.trans (Fr.of_below (fs := []) b3) (fun k hk => by cases hk))).below HB1.out.size (by simp))).trans (hf5.below (by have := HB1.out.size; omega) (fun q hq => by have := hft q (by simpa using hq); omega))
                clear ho5 hf5 r3 n3 HO HB1 HRm HCs b4 hS b3
                go_wp2
                go_roundw
                case rel => exact ⟨R.length + 1, _, by omega, by go_num, ⟨_, _, rfl⟩, HI5.out⟩
                case measure => simp [intOf]; omega
    · obtain rfl : k = L.length := by omega
      have HO := Hid.mk' hO
      clear hO hPk
      go_wp2
      go_ret
      exact ⟨_, R, rfl, HO.out, hRm, hb⟩
end Go.Proofs.Ythkjjebghfcgkaa
