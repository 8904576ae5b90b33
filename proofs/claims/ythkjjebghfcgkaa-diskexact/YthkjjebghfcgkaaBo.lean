/-
  Both disks side by side: the program's and the reference's, with the same files.
-/
import Derived.Test.YthkjjebghfcgkaaRn
import Derived.Test.YthkjjebghfcgkaaRc
import Derived.Test.YthkjjebghfcgkaaSq
import Derived.Test.YthkjjebghfcgkaaRl
import Derived.Test.YthkjjebghfcgkaaRf
import Derived.Test.YthkjjebghfcgkaaMg7
import Derived.Test.YthkjjebghfcgkaaMg8
import Derived.Test.YthkjjebghfcgkaaHv
namespace Go.Proofs.Ythkjjebghfcgkaa
open Go.RowKit Go.Maps

/-- What the walk leaves as it was below B: rows that lie there stay. -/
theorem Fr.of_low {B : Nat} {w w' : World} (h : Below B w w') : Fr (List.range' B (w.heap.size - B)) w w' :=
  ⟨⟨h.os, h.tape, h.output⟩, h.size, fun k hk hn => h.block k (Decidable.by_contra fun hlt => hn (by rw [List.mem_range'_1]; omega))⟩
theorem low_not {B n k : Nat} (h : k < B) : k ∉ List.range' B n := fun hm => by rw [List.mem_range'_1] at hm; omega

theorem nmA_set (A : List AF) {i : Nat} (hi : i < A.length) (x y : List Nat) : nmA (A.set i ((A.getD i zA).1, x, y)) = nmA A := by
  unfold nmA
  apply List.ext_getElem?
  intro j
  rw [List.getElem?_map, List.getElem?_set]
  by_cases h : i = j
  · subst h
    simp [hi, List.getD_eq_getElem?_getD]
  · simp [h]
theorem nmA_length (A : List AF) : (nmA A).length = A.length := by simp [nmA]
theorem has_posA {A : List AF} {t : ByteArray} (hr : M.rise (nmA A)) (h : M.has (nmA A) t = true) : M.pos (nmA A) t < A.length := by
  have := (has_pos hr h).1
  rwa [nmA_length] at this
theorem rise_mSync {A : List AF} (hr : M.rise (nmA A)) (t : ByteArray) : M.rise (nmA (mSync A t).2.1) ∧ M.rise (nmA (mSync A t).2.2) := by
  unfold mSync
  split
  · rename_i h
    exact ⟨by rw [nmA_set A (has_posA hr h)]; exact hr, hr⟩
  · exact ⟨hr, hr⟩
theorem rise_mTrunc {A : List AF} (hr : M.rise (nmA A)) (t : ByteArray) (n : Nat) : M.rise (nmA (mTrunc A t n).2.1) ∧ M.rise (nmA (mTrunc A t n).2.2) := by
  unfold mTrunc
  split
  · rename_i h
    have : M.rise (nmA (A.set (M.pos (nmA A) t) ((A.getD (M.pos (nmA A) t) zA).1, (A.getD (M.pos (nmA A) t) zA).2.1, M.sz (A.getD (M.pos (nmA A) t) zA).2.2 n))) := by rw [nmA_set A (has_posA hr h)]; exact hr
    exact ⟨this, this⟩
  · exact ⟨hr, hr⟩
theorem rise_mDel {A : List AF} (hr : M.rise (nmA A)) (t : ByteArray) : M.rise (nmA (mDel A t).2.1) ∧ M.rise (nmA (mDel A t).2.2) := by
  unfold mDel
  split
  · have : M.rise (nmA (A.take (M.pos (nmA A) t) ++ A.drop (M.pos (nmA A) t + 1))) := by
      have hs : (A.take (M.pos (nmA A) t) ++ A.drop (M.pos (nmA A) t + 1)).Sublist A := by
        conv => rhs; rw [← List.take_append_drop (M.pos (nmA A) t) A]
        exact (List.Sublist.refl _).append (List.drop_sublist_drop_left A (Nat.le_succ _))
      exact List.Pairwise.sublist (hs.map _) hr
    exact ⟨this, this⟩
  · exact ⟨hr, hr⟩
theorem rise_mWrite {A : List AF} (hr : M.rise (nmA A)) (t : ByteArray) (p : Nat) (b : List Nat) : M.rise (nmA (mWrite A t p b).2.1) ∧ M.rise (nmA (mWrite A t p b).2.2) := by
  unfold mWrite
  split
  · rename_i h
    have : M.rise (nmA (A.set (M.pos (nmA A) t) ((A.getD (M.pos (nmA A) t) zA).1, (A.getD (M.pos (nmA A) t) zA).2.1, M.put (A.getD (M.pos (nmA A) t) zA).2.2 p b))) := by rw [nmA_set A (has_posA hr h)]; exact hr
    exact ⟨this, this⟩
  · rename_i h
    split
    · have : M.rise (nmA (A.take (M.pos (nmA A) t) ++ (t, [], M.put [] p b) :: A.drop (M.pos (nmA A) t))) := by
        have e : nmA (A.take (M.pos (nmA A) t) ++ (t, [], M.put [] p b) :: A.drop (M.pos (nmA A) t)) = (nmA A).take (M.pos (nmA A) t) ++ t :: (nmA A).drop (M.pos (nmA A) t) := by simp [nmA]
        rw [e]
        exact M.rise_insert hr (by simpa using h)
      exact ⟨this, this⟩
    · exact ⟨hr, hr⟩
theorem rise_mSt {A : List AF} {q : S3} (hr : M.rise (nmA A)) (hq : M.rise (nmA q.2.1) ∧ M.rise (nmA q.2.2)) (off : Bool) (k : Int) : M.rise (nmA (mSt A off k q).2.1) := by
  unfold mSt
  split
  · exact hr
  · split
    · exact hr
    · split
      · exact hr
      · split
        · exact hq.2
        · exact hq.1

/-- Both disks in a law's walk. -/
structure Bo (w0 w : World) (D mb : Nat) (dv : Value) (L : List FR) (T : List (Int × Int)) (s : Int) (off : Bool) (R : Nat) (rv tv : Value) (L2 : List FR) : Prop where
  lw : Lw w0 w D mb dv L (first T) s off
  rd : RD w R rv tv L2 T s off
  rb : ∀ k ∈ rall R rv tv L2, w0.heap.size ≤ k
  ap : ∀ k ∈ rall R rv tv L2, k ∉ foot D mb dv L
  eq : L2.map fabs = L.map fabs
  ri : M.rise (names L)
theorem Bo.ri2 {w0 w : World} {D mb : Nat} {dv : Value} {L : List FR} {T : List (Int × Int)} {s : Int} {off : Bool} {R : Nat} {rv tv : Value} {L2 : List FR} (h : Bo w0 w D mb dv L T s off R rv tv L2) : M.rise (names L2) := by
  rw [← nmA_fabs, h.eq, nmA_fabs]
  exact h.ri
theorem Bo.fr {w0 w w' : World} {D mb : Nat} {dv : Value} {L : List FR} {T : List (Int × Int)} {s : Int} {off : Bool} {R : Nat} {rv tv : Value} {L2 : List FR} (h : Bo w0 w D mb dv L T s off R rv tv L2) {fs : List Nat} (hF : Fr fs w w') (h0 : ∀ k ∈ fs, w0.heap.size ≤ k) (h1 : ∀ k ∈ foot D mb dv L, k ∉ fs) (h2 : ∀ k ∈ rall R rv tv L2, k ∉ fs) : Bo w0 w' D mb dv L T s off R rv tv L2 :=
  ⟨⟨hF.dk h.lw.dk h1, h.lw.b.trans (hF.below h.lw.b.size h0), h.lw.ft⟩, h.rd.fr hF h2, h.rb, h.ap, h.eq, h.ri⟩
theorem Bo.below {w0 w w' : World} {D mb : Nat} {dv : Value} {L : List FR} {T : List (Int × Int)} {s : Int} {off : Bool} {R : Nat} {rv tv : Value} {L2 : List FR} (h : Bo w0 w D mb dv L T s off R rv tv L2) (hb : Below w.heap.size w w') : Bo w0 w' D mb dv L T s off R rv tv L2 :=
  h.fr (Fr.of_below (fs := []) hb) (fun _ hk => by cases hk) (fun _ _ hk => by cases hk) (fun _ _ hk => by cases hk)
/-- What lies from B on, above both disks, is written over. -/
theorem Bo.low {w0 w w' : World} {D mb : Nat} {dv : Value} {L : List FR} {T : List (Int × Int)} {s : Int} {off : Bool} {R : Nat} {rv tv : Value} {L2 : List FR} (h : Bo w0 w D mb dv L T s off R rv tv L2) {B : Nat} (hb : Below B w w') (h0 : w0.heap.size ≤ B) (h1 : ∀ k ∈ foot D mb dv L, k < B) (h2 : ∀ k ∈ rall R rv tv L2, k < B) : Bo w0 w' D mb dv L T s off R rv tv L2 :=
  h.fr (Fr.of_low hb) (fun k hk => by rw [List.mem_range'_1] at hk; omega) (fun k hk => low_not (h1 k hk)) (fun k hk => low_not (h2 k hk))
/-- The program's disk has made a stroke: the reference's stands. -/
theorem Bo.half {w0 w w1 : World} {D mb : Nat} {dv dv' : Value} {L L' : List FR} {T : List (Int × Int)} {s s' : Int} {off off' : Bool} {R : Nat} {rv tv : Value} {L2 : List FR} (h : Bo w0 w D mb dv L T s off R rv tv L2) (g : Moved w D mb dv L (first T) s' off' dv' L' w1) : RD w1 R rv tv L2 T s off := h.rd.fr g.2.1 h.ap
/-- Both have made it. -/
theorem Bo.both {w0 w w1 w2 : World} {D mb : Nat} {dv dv' : Value} {L L' : List FR} {T : List (Int × Int)} {s s' : Int} {off off' : Bool} {R : Nat} {rv rv' tv : Value} {L2 L2' : List FR} (h : Bo w0 w D mb dv L T s off R rv tv L2) (g : Moved w D mb dv L (first T) s' off' dv' L' w1) (g2 : RMoved w1 R rv tv L2 T s' off' rv' L2' w2) (he : L2'.map fabs = L'.map fabs) (hr : M.rise (names L')) : Bo w0 w2 D mb dv' L' T s' off' R rv' tv L2' := by
  have hlt := h.rd.lt
  have hrf : ∀ k ∈ rf R rv, k ∈ rall R rv tv L2 := fun k hk => by
    simp only [rf, rall, List.mem_cons, List.mem_append] at hk ⊢
    rcases hk with hk | hk
    · exact .inl hk
    · exact .inr (.inl hk)
  have hz1 := g.2.1.2.1
  have hap : ∀ k ∈ rall R rv tv L2, k ∉ foot D mb dv' L' := fun k hk hm => by
    rcases g.2.2 k hm with h1 | h1
    · exact h.ap k hk h1
    · have := hlt k hk; omega
  have hl1 := h.lw.moved g
  refine ⟨⟨g2.2.1.dk g.1 (fun k hk hm => hap k (hrf k hm) hk), hl1.b.trans (g2.2.1.below hl1.b.size (fun k hk => h.rb k (hrf k hk))), hl1.ft⟩, g2.1, fun k hk => ?_, fun k hk hm => ?_, he, hr⟩
  · rcases g2.2.2 k hk with h1 | h1
    · exact h.rb k h1
    · have := hl1.b.size; omega
  · rcases g2.2.2 k hk with h1 | h1
    · exact hap k h1 hm
    · have := g.1.lt k hm; omega

/-- What 'does' leaves behind: both disks again. -/
def DoP (w0 : World) (D mb : Nat) (T : List (Int × Int)) (s : Int) (R : Nat) (tv : Value) (w' : World) : Prop :=
  ∃ dv' L' s' off' rv' L2', (s ≤ s' ∧ s' ≤ s + 1) ∧ Bo w0 w' D mb dv' L' T s' off' R rv' tv L2'
theorem Bo.done {w0 w : World} {D mb : Nat} {dv : Value} {L : List FR} {T : List (Int × Int)} {s : Int} {off : Bool} {R : Nat} {rv tv : Value} {L2 : List FR} (h : Bo w0 w D mb dv L T s off R rv tv L2) : DoP w0 D mb T s R tv w := ⟨dv, L, s, off, rv, L2, by omega, h⟩
/-- A stroke on both, by what each of them promises. -/
theorem Bo.stroke {w0 w w1 w2 : World} {D mb : Nat} {dv : Value} {L : List FR} {T : List (Int × Int)} {s : Int} {off : Bool} {R : Nat} {rv tv : Value} {L2 : List FR} {q : S3} {dv' : Value} {L' : List FR} (h : Bo w0 w D mb dv L T s off R rv tv L2) (hq : M.rise (nmA q.2.1) ∧ M.rise (nmA q.2.2))
    (g : Moved w D mb dv L (first T) (s + 1) (mSt (L.map fabs) off (first T (s + 1)) q).2.2 dv' L' w1) (ge : L'.map fabs = (mSt (L.map fabs) off (first T (s + 1)) q).2.1) {rv' : Value} {L2' : List FR}
    (g2 : RMoved w1 R rv tv L2 T (s + 1) (mSt (L2.map fabs) off (first T (s + 1)) q).2.2 rv' L2' w2) (g2e : L2'.map fabs = (mSt (L2.map fabs) off (first T (s + 1)) q).2.1) : DoP w0 D mb T s R tv w2 := by
  rw [h.eq] at g2 g2e
  refine ⟨dv', L', s + 1, _, rv', L2', by omega, h.both g g2 (by rw [g2e, ge]) ?_⟩
  rw [← nmA_fabs, ge]
  exact rise_mSt (by rw [nmA_fabs]; exact h.ri) hq _ _
end Go.Proofs.Ythkjjebghfcgkaa
