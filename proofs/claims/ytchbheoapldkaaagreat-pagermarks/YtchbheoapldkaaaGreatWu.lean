/-
  The contracts of the file's write and sync.
-/
import Derived.Test.YtchbheoapldkaaaGreatMg1
namespace Go.Proofs.YtchbheoapldkaaaGreat
open Go.RowKit Go.Maps

set_option maxRecDepth 100000 in
set_option maxHeartbeats 2000000 in
theorem fwrite_any {w : World} {D mb : Nat} {v : Value} {L : List FR} {f : Int → Int} {s : Int} {off : Bool} (h : Dk w D mb v L f s off) {i : Nat} (hi : i < L.length) {g c : Nat} (hv : v = .slice (some ⟨g, 0, none⟩) L.length c)
    (p : Nat) (bv : Value) (b : List Nat) (hb : Sees w bv b) (hbf : ∀ a n c, bv = .slice (some a) n c → a.block ∉ foot D mb v L) (hb1 : 1 ≤ b.length) (hp : p + b.length ≤ 4194304) :
    Calls Tryz.prog 131 #[.pointer (some ⟨g, i * 3, none⟩), .int .i64 p, bv] w fun e w' => e = .returned (.tuple #[]) ∧
      ∃ nv', Turned w D mb v L f s off (L.set i ((L.getD i z0).nm, (L.getD i z0).sv, nv', (L.getD i z0).safe, M.put (L.getD i z0).seen p b)) w' := by
  obtain ⟨hsv, hnv⟩ := h.2.2.1 _ (getD_mem L hi)
  have hrow := owns_files h.2.1.1
  subst hv
  obtain ⟨a', c', he, _, _, hrow⟩ := hrow
  obtain ⟨rfl, rfl⟩ : some ⟨g, 0, none⟩ = a' ∧ c = c' := by simpa using he
  obtain ⟨g', hg', hrow⟩ := hrow (by omega)
  obtain rfl : g = g' := by simpa using hg'
  obtain ⟨_, _, c3, hfr⟩ := hrow i hi
  obtain ⟨na, nc, hnn, hnl, hncm⟩ := hnv.slice
  have hl4 := hnv.2
  have HS := Hid.mk' (fun n hn => sized_any w.drew (L.getD i z0).nv (L.getD i z0).seen ((Fr.refl [] w).drew.rw hnv (fun _ _ hk => by cases hk)) n hn)
  have HD := Hid.mk' (fun (w1 : World) (nv' : Value) (l' : List Nat) (h1 : w.grownBy w1 (L.getD i z0).nv.ownBlock) (h2 : Rw w1 nv' l') h3 => (Exists.intro nv' (h.seen hi rfl h1 h2 h3) : ∃ q, Turned w D mb (.slice (some ⟨g, 0, none⟩) L.length c) L f s off (L.set i ((L.getD i z0).nm, (L.getD i z0).sv, q, (L.getD i z0).safe, l')) (w1.setCell ⟨g, i * 3 + 2, none⟩ nv')))
  obtain ⟨⟨ba, bc, rfl, hba⟩, hbm⟩ := hb
  rw [hnn] at c3 HS
  have HN := Hid.mk' hnn
  clear hnn hrow
  obtain ⟨l, hl⟩ : ∃ l, (L.getD i z0).seen = l := ⟨_, rfl⟩
  rw [hl] at c3 HS hl4 hnl
  have HAp := Hid.mk' ((h.apart hi).1 g rfl)
  have HG : Hid (∀ y, (L.set i y).getD i z0 = y) := set_getD L hi
  generalize L.getD i z0 = x at *
  have HX : Hid ((if (l.length : Int) < IntKind.i64.wrap ((p : Int) + (b.length : Int)) then IntKind.i64.wrap ((p : Int) + (b.length : Int)) else (l.length : Int)) = ((max l.length (p + b.length) : Nat) : Int)) := by
    show _ = _
    rw [show IntKind.i64.wrap ((p : Int) + (b.length : Int)) = (p : Int) + b.length by rw [IntKind.wrap_i64]; omega]
    split <;> omega
  have HM : Hid (max l.length (p + b.length) ≤ 4194304) := by show _ ≤ _; omega
  have HL := Hid.mk' hl
  have HB := Hid.mk' hba
  have HF := Hid.mk' hbf
  have HI := Hid.mk' hi
  have HDk := Hid.mk' h
  have hgl : g < w.heap.size := World.block_lt_of_cell? _ _ c3
  have HNB : Hid (∀ k, (Value.slice na l.length nc).ownBlock = some k → k ≠ g) := by
    show ∀ k, _
    intro k hk hkg
    refine HAp.out ?_
    simp only [feet1, List.mem_append]
    right
    rw [HN.out, hl, hk, hkg]
    simp
  clear hl hba hbf hi hsv hnv h
  go_enter Tryz.func131, Tryz.ntmps131
  go_upto_region 0 with fail
  go_cut [] from 6 to 23 (fun wx => ∃ nv', Turned w D mb (.slice (some ⟨g, 0, none⟩) L.length c) L f s off (L.set i (x.nm, x.sv, nv', x.safe, M.sz l (max l.length (p + b.length)))) wx)
  case first =>
    go_region_with (go_at_call 86; rw [HX.out]; refine (HS.out _ HM.out).mono ?_; rintro e' w1 ⟨nv', rfl, hR, hgr, hbl⟩; obtain ⟨a2, c2, rfl, _, _⟩ := hR.slice; have c4 := hgr.cell (a := ⟨g, i * 3 + 2, none⟩) c3 (fun e => HNB.out _ e.symm rfl); have f4 : w1.frozen? ⟨g, i * 3 + 2, none⟩ = false := (World.frozen?_of_block (hgr.block g hgl (fun e => HNB.out _ e.symm rfl))).trans (hfr _); have HT := Hid.mk' (HD.out w1 _ _ ⟨hgr.os, hgr.tape, hgr.output, hgr.size, fun k h1 h2 => hgr.block k h1 (by rw [HN.out, HL.out] at h2; exact h2)⟩ hR (by rw [HN.out, HL.out]; exact hbl)); clear hR hgr hbl)
    all_goals
      go_wp2_with fail
      go_meet
      exact HT.out
  case rest =>
    clear c3 hfr HS HD HX HNB HN
    obtain ⟨nv', hT⟩ := hcut
    have hi' : i < (L.set i (x.nm, x.sv, nv', x.safe, M.sz l (max l.length (p + b.length)))).length := by rw [List.length_set]; exact HI.out
    have hx := HG.out (x.nm, x.sv, nv', x.safe, M.sz l (max l.length (p + b.length)))
    obtain ⟨a', c', he, _, _, hrow⟩ := owns_files hT.1.2.1.1
    obtain ⟨rfl, rfl⟩ : some ⟨g, 0, none⟩ = a' ∧ c = c' := by rw [List.length_set] at he; simpa using he
    clear he
    obtain ⟨g', hg', hrow⟩ := hrow (by omega)
    obtain rfl : g = g' := by simpa using hg'
    obtain ⟨_, _, c3, _⟩ := hrow i hi'
    obtain ⟨_, hnv⟩ := hT.1.2.2.1 _ (getD_mem _ hi')
    rw [hx] at c3 hnv
    have hlN := M.sz_length l (max l.length (p + b.length))
    obtain ⟨a2, c2, hn2, hc2, hcm2⟩ := hnv.slice
    have hR := hnv.1
    rw [show FR.nv (x.nm, x.sv, nv', x.safe, M.sz l (max l.length (p + b.length))) = nv' from rfl] at hn2 c3 hR
    rw [show FR.seen (x.nm, x.sv, nv', x.safe, M.sz l (max l.length (p + b.length))) = M.sz l (max l.length (p + b.length)) from rfl] at hn2 hc2 hR
    rw [hlN] at hn2 hc2 hR
    subst hn2
    obtain ⟨g2, rfl⟩ : ∃ g2, a2 = some ⟨g2, 0, none⟩ := by
      rcases hR.2 with ⟨_, h0⟩ | ⟨g2, cap, cur, hq, _⟩
      · omega
      · exact ⟨g2, by simpa using (by simpa using hq : a2 = _ ∧ _).1⟩
    have hsb : Sees wc (.slice ba b.length bc) b := hT.2.1.sees ⟨⟨ba, bc, rfl, HB.out⟩, hbm⟩ HF.out
    obtain ⟨w', hr, hT2⟩ := hT.1.copied hi' (by rw [hx]) p ba bc b hsb hb1 (by rw [hx]; show _ ≤ List.length (M.sz _ _); rw [hlN]; omega)
    have hfin := hT.step hT2
    rw [List.set_set, hx] at hfin
    have HFin := Hid.mk' hfin
    have hne : ¬ (c2 = p) := by omega
    clear hfin hT2 hsb hT hx hrow hR hnv
    go_wp2
    go_end0
    refine ⟨rfl, .slice (some ⟨g2, 0, none⟩) (max l.length (p + b.length)) c2, ?_⟩
    have := HFin.out
    rw [HL.out]
    exact this
end Go.Proofs.YtchbheoapldkaaaGreat
