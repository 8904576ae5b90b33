/-
  A disk as plain data, what each stroke makes of it, and that the program's strokes make just that.
  look, Size and Read in the ways that were missing, and Read of any piece.
-/
import Derived.Test.YtjimhikfmccicaaGreatMg11
import Derived.Test.YtjimhikfmccicaaGreatNe
import Derived.Test.YtjimhikfmccicaaGreatMg6
import Derived.Test.YtjimhikfmccicaaGreatMg9
namespace Go.Proofs.YtjimhikfmccicaaGreat
open Go.RowKit Go.Maps

/-- A file: its name, its safe bytes, those that are seen. -/
abbrev AF := ByteArray × List Nat × List Nat
def zA : AF := (⟨#[]⟩, [], [])
def nmA (A : List AF) : List ByteArray := A.map (·.1)
theorem nmA_fabs (L : List FR) : nmA (L.map fabs) = names L := by simp [nmA, names, FR.nm]
theorem fabs_getD (L : List FR) (i : Nat) : (L.map fabs).getD i zA = fabs (L.getD i z0) := by
  by_cases h : i < L.length
  · simp [List.getD_eq_getElem?_getD, h]
  · have e1 : (L.map fabs)[i]? = none := List.getElem?_eq_none (by simp; omega)
    have e2 : L[i]? = none := List.getElem?_eq_none (by omega)
    rw [List.getD_eq_getElem?_getD, List.getD_eq_getElem?_getD, e1, e2]
    rfl

/-- What a stroke tells where nothing goes wrong, the files then, and the files where the power goes by it. -/
abbrev S3 := Int × List AF × List AF
def mSync (A : List AF) (t : ByteArray) : S3 :=
  if M.has (nmA A) t then (0, A.set (M.pos (nmA A) t) ((A.getD (M.pos (nmA A) t) zA).1, (A.getD (M.pos (nmA A) t) zA).2.2, (A.getD (M.pos (nmA A) t) zA).2.2), A) else (2, A, A)
def mTrunc (A : List AF) (t : ByteArray) (n : Nat) : S3 :=
  if M.has (nmA A) t then (0, A.set (M.pos (nmA A) t) ((A.getD (M.pos (nmA A) t) zA).1, (A.getD (M.pos (nmA A) t) zA).2.1, M.sz (A.getD (M.pos (nmA A) t) zA).2.2 n), A.set (M.pos (nmA A) t) ((A.getD (M.pos (nmA A) t) zA).1, (A.getD (M.pos (nmA A) t) zA).2.1, M.sz (A.getD (M.pos (nmA A) t) zA).2.2 n)) else (2, A, A)
def mDel (A : List AF) (t : ByteArray) : S3 :=
  if M.has (nmA A) t then (0, A.take (M.pos (nmA A) t) ++ A.drop (M.pos (nmA A) t + 1), A.take (M.pos (nmA A) t) ++ A.drop (M.pos (nmA A) t + 1)) else (2, A, A)
def mWrite (A : List AF) (t : ByteArray) (p : Nat) (b : List Nat) : S3 :=
  if M.has (nmA A) t then (0, A.set (M.pos (nmA A) t) ((A.getD (M.pos (nmA A) t) zA).1, (A.getD (M.pos (nmA A) t) zA).2.1, M.put (A.getD (M.pos (nmA A) t) zA).2.2 p b), A.set (M.pos (nmA A) t) ((A.getD (M.pos (nmA A) t) zA).1, (A.getD (M.pos (nmA A) t) zA).2.1, M.put (A.getD (M.pos (nmA A) t) zA).2.2 p b))
  else if A.length < 16 then (0, A.take (M.pos (nmA A) t) ++ (t, [], M.put [] p b) :: A.drop (M.pos (nmA A) t), A.take (M.pos (nmA A) t) ++ (t, [], M.put [] p b) :: A.drop (M.pos (nmA A) t)) else (10, A, A)
/-- A stroke: what it tells, the files and the power behind it. -/
def mSt (A : List AF) (off : Bool) (k : Int) (q : S3) : Int × List AF × Bool :=
  if off = true then (9, A, true) else if k = 1 then (9, A, false) else if k = 2 then (10, A, false) else if k = 3 then (9, q.2.2, true) else (q.1, q.2.1, false)

/-- How a call that is a stroke leaves the disk. -/
def OpP (w : World) (D mb : Nat) (v : Value) (L : List FR) (f : Int → Int) (s : Int) (off : Bool) (q : S3) (e : Ending) (w' : World) : Prop :=
  e = .returned (.int .i64 (mSt (L.map fabs) off (f (s + 1)) q).1) ∧ ∃ v' L', Moved w D mb v L f (s + 1) (mSt (L.map fabs) off (f (s + 1)) q).2.2 v' L' w' ∧ L'.map fabs = (mSt (L.map fabs) off (f (s + 1)) q).2.1

theorem op_dark {w w' : World} {D mb : Nat} {v : Value} {L : List FR} {f : Int → Int} {s : Int} (q : S3) {e : Ending} (h : e = .returned (.int .i64 9) ∧ Turned w D mb v L f (s + 1) true L w') : OpP w D mb v L f s true q e w' :=
  ⟨h.1, v, L, h.2, rfl⟩
theorem op_no {w w' : World} {D mb : Nat} {v : Value} {L : List FR} {f : Int → Int} {s : Int} (q : S3) {e : Ending} (hk : f (s + 1) = 1 ∨ f (s + 1) = 2) (h : e = .returned (.int .i64 (if f (s + 1) = 1 then 9 else 10)) ∧ Turned w D mb v L f (s + 1) false L w') : OpP w D mb v L f s false q e w' := by
  obtain ⟨rfl, hT⟩ := h
  unfold OpP mSt
  rcases hk with hk | hk
  · rw [hk]; exact ⟨rfl, v, L, hT, rfl⟩
  · rw [hk]; exact ⟨rfl, v, L, hT, rfl⟩
theorem op_do {w w' : World} {D mb : Nat} {v v' : Value} {L L' : List FR} {f : Int → Int} {s r : Int} {q : S3} {e : Ending} (hk : f (s + 1) = 0) (he : e = .returned (.int .i64 r)) (hT : Moved w D mb v L f (s + 1) false v' L' w') (h1 : q.1 = r) (h2 : L'.map fabs = q.2.1) : OpP w D mb v L f s false q e w' := by
  unfold OpP mSt
  rw [hk]
  exact ⟨by rw [he, ← h1]; rfl, v', L', hT, h2⟩
theorem op_off {w w' : World} {D mb : Nat} {v v' : Value} {L L' : List FR} {f : Int → Int} {s : Int} {q : S3} {e : Ending} (hk : f (s + 1) = 3) (he : e = .returned (.int .i64 9)) (hT : Moved w D mb v L f (s + 1) true v' L' w') (h2 : L'.map fabs = q.2.2) : OpP w D mb v L f s false q e w' := by
  unfold OpP mSt
  rw [hk]
  exact ⟨by rw [he]; rfl, v', L', hT, h2⟩

theorem sync_ex {w : World} {D mb : Nat} {v : Value} {L : List FR} {f : Int → Int} {s : Int} {off : Bool} (h : Dk w D mb v L f s off) (hs : 0 ≤ s ∧ s ≤ 1000000) (hk : f (s + 1) = 0 ∨ f (s + 1) = 1 ∨ f (s + 1) = 2 ∨ f (s + 1) = 3) (hr : M.rise (names L)) (t : ByteArray) (hn : M.nam t = true) :
    Calls Tryz.prog 101 #[.pointer (some ⟨D, 0, none⟩), .string t] w (OpP w D mb v L f s off (mSync (L.map fabs) t)) := by
  cases off with
  | true => exact (sync_dark h hs t hn).mono (fun e w' q => op_dark _ q)
  | false =>
    by_cases ht : M.has (names L) t = true
    · have hm : mSync (L.map fabs) t = (0, (L.map fabs).set (M.pos (names L) t) ((L.getD (M.pos (names L) t) z0).nm, (L.getD (M.pos (names L) t) z0).seen, (L.getD (M.pos (names L) t) z0).seen), L.map fabs) := by
        unfold mSync
        rw [nmA_fabs, if_pos ht, fabs_getD]
      rw [hm]
      rcases hk with hk | hk | hk | hk
      · refine (sync_do h hs hk hr t hn ht).mono ?_
        rintro e w' ⟨he, sv', hT⟩
        exact op_do hk he hT.moved rfl (by rw [List.map_set])
      · exact (sync_no h hs (.inl hk) t hn).mono (fun e w' q => op_no _ (.inl hk) q)
      · exact (sync_no h hs (.inr hk) t hn).mono (fun e w' q => op_no _ (.inr hk) q)
      · refine (sync_off h hs hk hr t hn ht).mono ?_
        rintro e w' ⟨he, hT⟩
        exact op_off hk he hT.moved rfl
    · have hm : mSync (L.map fabs) t = (2, L.map fabs, L.map fabs) := by
        unfold mSync
        rw [nmA_fabs, if_neg ht]
      rw [hm]
      rcases hk with hk | hk | hk | hk
      · refine (sync_none h hs hk hr t hn (by simpa using ht)).mono ?_
        rintro e w' ⟨he, hT⟩
        exact op_do hk he hT.moved rfl rfl
      · exact (sync_no h hs (.inl hk) t hn).mono (fun e w' q => op_no _ (.inl hk) q)
      · exact (sync_no h hs (.inr hk) t hn).mono (fun e w' q => op_no _ (.inr hk) q)
      · refine (sync_none_off h hs hk hr t hn (by simpa using ht)).mono ?_
        rintro e w' ⟨he, hT⟩
        exact op_off hk he hT.moved rfl

theorem truncate_ex {w : World} {D mb : Nat} {v : Value} {L : List FR} {f : Int → Int} {s : Int} {off : Bool} (h : Dk w D mb v L f s off) (hs : 0 ≤ s ∧ s ≤ 1000000) (hk : f (s + 1) = 0 ∨ f (s + 1) = 1 ∨ f (s + 1) = 2 ∨ f (s + 1) = 3) (hr : M.rise (names L)) (t : ByteArray) (hn : M.nam t = true) (n : Nat) (hl : n ≤ 4194304) :
    Calls Tryz.prog 100 #[.pointer (some ⟨D, 0, none⟩), .string t, .int .i64 n] w (OpP w D mb v L f s off (mTrunc (L.map fabs) t n)) := by
  cases off with
  | true => exact (truncate_dark h hs t hn n (by omega)).mono (fun e w' q => op_dark _ q)
  | false =>
    by_cases ht : M.has (names L) t = true
    · have hm : mTrunc (L.map fabs) t n = (0, (L.map fabs).set (M.pos (names L) t) ((L.getD (M.pos (names L) t) z0).nm, (L.getD (M.pos (names L) t) z0).safe, M.sz (L.getD (M.pos (names L) t) z0).seen n), (L.map fabs).set (M.pos (names L) t) ((L.getD (M.pos (names L) t) z0).nm, (L.getD (M.pos (names L) t) z0).safe, M.sz (L.getD (M.pos (names L) t) z0).seen n)) := by
        unfold mTrunc
        rw [nmA_fabs, if_pos ht, fabs_getD]
      rw [hm]
      rcases hk with hk | hk | hk | hk
      · refine (truncate_do h hs hk hr t hn n hl ht).mono ?_
        rintro e w' ⟨he, sv', hT⟩
        exact op_do hk he hT.moved rfl (by rw [List.map_set])
      · exact (truncate_no h hs (.inl hk) t hn n (by omega)).mono (fun e w' q => op_no _ (.inl hk) q)
      · exact (truncate_no h hs (.inr hk) t hn n (by omega)).mono (fun e w' q => op_no _ (.inr hk) q)
      · refine (truncate_off h hs hk hr t hn n hl ht).mono ?_
        rintro e w' ⟨he, sv', hT⟩
        exact op_off hk he hT.moved (by rw [List.map_set])
    · have hm : mTrunc (L.map fabs) t n = (2, L.map fabs, L.map fabs) := by
        unfold mTrunc
        rw [nmA_fabs, if_neg ht]
      rw [hm]
      rcases hk with hk | hk | hk | hk
      · refine (truncate_none h hs hk hr t hn n hl (by simpa using ht)).mono ?_
        rintro e w' ⟨he, hT⟩
        exact op_do hk he hT.moved rfl rfl
      · exact (truncate_no h hs (.inl hk) t hn n (by omega)).mono (fun e w' q => op_no _ (.inl hk) q)
      · exact (truncate_no h hs (.inr hk) t hn n (by omega)).mono (fun e w' q => op_no _ (.inr hk) q)
      · refine (truncate_none_off h hs hk hr t hn n hl (by simpa using ht)).mono ?_
        rintro e w' ⟨he, hT⟩
        exact op_off hk he hT.moved rfl

theorem delete_ex {w : World} {D mb : Nat} {v : Value} {L : List FR} {f : Int → Int} {s : Int} {off : Bool} (h : Dk w D mb v L f s off) (hs : 0 ≤ s ∧ s ≤ 1000000) (hk : f (s + 1) = 0 ∨ f (s + 1) = 1 ∨ f (s + 1) = 2 ∨ f (s + 1) = 3) (hr : M.rise (names L)) (t : ByteArray) (hn : M.nam t = true) :
    Calls Tryz.prog 102 #[.pointer (some ⟨D, 0, none⟩), .string t] w (OpP w D mb v L f s off (mDel (L.map fabs) t)) := by
  cases off with
  | true => exact (delete_dark h hs t hn).mono (fun e w' q => op_dark _ q)
  | false =>
    by_cases ht : M.has (names L) t = true
    · have hm : mDel (L.map fabs) t = (0, (L.map fabs).take (M.pos (names L) t) ++ (L.map fabs).drop (M.pos (names L) t + 1), (L.map fabs).take (M.pos (names L) t) ++ (L.map fabs).drop (M.pos (names L) t + 1)) := by
        unfold mDel
        rw [nmA_fabs, if_pos ht]
      rw [hm]
      rcases hk with hk | hk | hk | hk
      · refine (delete_do h hs hk hr t hn ht).mono ?_
        rintro e w' ⟨he, v', hT⟩
        exact op_do hk he hT rfl (by rw [List.map_append, List.map_take, List.map_drop])
      · exact (delete_no h hs (.inl hk) t hn).mono (fun e w' q => op_no _ (.inl hk) q)
      · exact (delete_no h hs (.inr hk) t hn).mono (fun e w' q => op_no _ (.inr hk) q)
      · refine (delete_off h hs hk hr t hn ht).mono ?_
        rintro e w' ⟨he, v', hT⟩
        exact op_off hk he hT (by rw [List.map_append, List.map_take, List.map_drop])
    · have hm : mDel (L.map fabs) t = (2, L.map fabs, L.map fabs) := by
        unfold mDel
        rw [nmA_fabs, if_neg ht]
      rw [hm]
      rcases hk with hk | hk | hk | hk
      · refine (delete_none h hs hk hr t hn (by simpa using ht)).mono ?_
        rintro e w' ⟨he, hT⟩
        exact op_do hk he hT.moved rfl rfl
      · exact (delete_no h hs (.inl hk) t hn).mono (fun e w' q => op_no _ (.inl hk) q)
      · exact (delete_no h hs (.inr hk) t hn).mono (fun e w' q => op_no _ (.inr hk) q)
      · refine (delete_none_off h hs hk hr t hn (by simpa using ht)).mono ?_
        rintro e w' ⟨he, hT⟩
        exact op_off hk he hT.moved rfl

theorem write_ex {w : World} {D mb : Nat} {v : Value} {L : List FR} {f : Int → Int} {s : Int} {off : Bool} (h : Dk w D mb v L f s off) (hs : 0 ≤ s ∧ s ≤ 1000000) (hk : f (s + 1) = 0 ∨ f (s + 1) = 1 ∨ f (s + 1) = 2 ∨ f (s + 1) = 3) (hr : M.rise (names L)) (t : ByteArray) (hn : M.nam t = true)
    (p : Nat) (ba : Option Addr) (bc : Nat) (b : List Nat) (hb : Sees w (.slice ba b.length bc) b) (hbf : ∀ a, ba = some a → a.block ∉ foot D mb v L) (hb1 : 1 ≤ b.length) (hp : p + b.length ≤ 4194304) :
    Calls Tryz.prog 116 #[.pointer (some ⟨D, 0, none⟩), .string t, .int .i64 p, .slice ba b.length bc] w (OpP w D mb v L f s off (mWrite (L.map fabs) t p b)) := by
  cases off with
  | true => exact (write_dark h hs t hn p ba b.length bc hb1 hp).mono (fun e w' q => op_dark _ q)
  | false =>
    by_cases ht : M.has (names L) t = true
    · have hm : mWrite (L.map fabs) t p b = (0, (L.map fabs).set (M.pos (names L) t) ((L.getD (M.pos (names L) t) z0).nm, (L.getD (M.pos (names L) t) z0).safe, M.put (L.getD (M.pos (names L) t) z0).seen p b), (L.map fabs).set (M.pos (names L) t) ((L.getD (M.pos (names L) t) z0).nm, (L.getD (M.pos (names L) t) z0).safe, M.put (L.getD (M.pos (names L) t) z0).seen p b)) := by
        unfold mWrite
        rw [nmA_fabs, if_pos ht, fabs_getD]
      rw [hm]
      rcases hk with hk | hk | hk | hk
      · refine (write_there_do h hs hk hr t hn ht p ba bc b hb hbf hb1 hp).mono ?_
        rintro e w' ⟨he, sv', hT⟩
        exact op_do hk he hT.moved rfl (by rw [List.map_set])
      · exact (write_no h hs (.inl hk) t hn p ba b.length bc hb1 hp).mono (fun e w' q => op_no _ (.inl hk) q)
      · exact (write_no h hs (.inr hk) t hn p ba b.length bc hb1 hp).mono (fun e w' q => op_no _ (.inr hk) q)
      · refine (write_there_off h hs hk hr t hn ht p ba bc b hb hbf hb1 hp).mono ?_
        rintro e w' ⟨he, sv', hT⟩
        exact op_off hk he hT.moved (by rw [List.map_set])
    · have ht' : M.has (names L) t = false := by simpa using ht
      have hpl := M.pos_le (names L) t
      rw [names_length] at hpl
      by_cases h16 : L.length < 16
      · have hm : mWrite (L.map fabs) t p b = (0, (L.map fabs).take (M.pos (names L) t) ++ (t, [], M.put [] p b) :: (L.map fabs).drop (M.pos (names L) t), (L.map fabs).take (M.pos (names L) t) ++ (t, [], M.put [] p b) :: (L.map fabs).drop (M.pos (names L) t)) := by
          unfold mWrite
          rw [nmA_fabs, if_neg ht, if_pos (by rw [List.length_map]; exact h16)]
        rw [hm]
        by_cases hend : M.pos (names L) t = L.length
        · have hx : ∀ nv' : Value, (L ++ [((t, Value.slice none 0 0, nv', [], M.put [] p b) : FR)]).map fabs = (L.map fabs).take (M.pos (names L) t) ++ (t, [], M.put [] p b) :: (L.map fabs).drop (M.pos (names L) t) := by
            intro nv'
            rw [hend, List.take_of_length_le (by simp), List.drop_of_length_le (by simp), List.map_append]
            rfl
          rcases hk with hk | hk | hk | hk
          · refine (write_new_do h hs hk hr t hn ht' hend h16 p ba bc b hb hbf hb1 hp).mono ?_
            rintro e w' ⟨he, v', nv', hT⟩
            exact op_do hk he hT rfl (hx nv')
          · exact (write_no h hs (.inl hk) t hn p ba b.length bc hb1 hp).mono (fun e w' q => op_no _ (.inl hk) q)
          · exact (write_no h hs (.inr hk) t hn p ba b.length bc hb1 hp).mono (fun e w' q => op_no _ (.inr hk) q)
          · refine (write_new_off h hs hk hr t hn ht' hend h16 p ba bc b hb hbf hb1 hp).mono ?_
            rintro e w' ⟨he, v', nv', hT⟩
            exact op_off hk he hT (hx nv')
        · have hx : ∀ nv' : Value, (L.take (M.pos (names L) t) ++ ((t, Value.slice none 0 0, nv', [], M.put [] p b) : FR) :: L.drop (M.pos (names L) t)).map fabs = (L.map fabs).take (M.pos (names L) t) ++ (t, [], M.put [] p b) :: (L.map fabs).drop (M.pos (names L) t) := by
            intro nv'
            rw [List.map_append, List.map_cons, List.map_take, List.map_drop]
          rcases hk with hk | hk | hk | hk
          · refine (write_mid_do h hs hk hr t hn ht' rfl (by omega) h16 p ba bc b hb hbf hb1 hp).mono ?_
            rintro e w' ⟨he, v', nv', hT⟩
            exact op_do hk he hT rfl (hx nv')
          · exact (write_no h hs (.inl hk) t hn p ba b.length bc hb1 hp).mono (fun e w' q => op_no _ (.inl hk) q)
          · exact (write_no h hs (.inr hk) t hn p ba b.length bc hb1 hp).mono (fun e w' q => op_no _ (.inr hk) q)
          · refine (write_mid_off h hs hk hr t hn ht' rfl (by omega) h16 p ba bc b hb hbf hb1 hp).mono ?_
            rintro e w' ⟨he, v', nv', hT⟩
            exact op_off hk he hT (hx nv')
      · have hm : mWrite (L.map fabs) t p b = (10, L.map fabs, L.map fabs) := by
          unfold mWrite
          rw [nmA_fabs, if_neg ht, if_neg (by rw [List.length_map]; exact h16)]
        rw [hm]
        have h16' : L.length = 16 := by have := h.2.1.2; omega
        rcases hk with hk | hk | hk | hk
        · refine (write_full_do h hs hk hr t hn ht' h16' p ba bc b hb1 hp).mono ?_
          rintro e w' ⟨he, hT⟩
          exact op_do hk he hT.moved rfl rfl
        · exact (write_no h hs (.inl hk) t hn p ba b.length bc hb1 hp).mono (fun e w' q => op_no _ (.inl hk) q)
        · exact (write_no h hs (.inr hk) t hn p ba b.length bc hb1 hp).mono (fun e w' q => op_no _ (.inr hk) q)
        · refine (write_full_off h hs hk hr t hn ht' h16' p ba bc b hb1 hp).mono ?_
          rintro e w' ⟨he, hT⟩
          exact op_off hk he hT.moved rfl

set_option maxRecDepth 100000 in
set_option maxHeartbeats 1000000 in
theorem look_none {w : World} {D mb : Nat} {v : Value} {L : List FR} {f : Int → Int} {s : Int} (h : Dk w D mb v L f s false) (hr : M.rise (names L)) (t : ByteArray) (htn : M.nam t = true) (ht : M.has (names L) t = false) :
    Calls Tryz.prog 112 #[.pointer (some ⟨D, 0, none⟩), .string t] w fun e w' => e = .returned (.tuple #[.agg #[.string ⟨#[]⟩, .slice none 0 0, .slice none 0 0], .int .i64 2]) ∧ Below w.heap.size w w' := by
  have HN := Hid.mk' (name_any t)
  rw [htn] at HN
  have HD := Hid.mk' h
  have HFi : Hid (∀ w1, Below w.heap.size w w1 → Calls Tryz.prog 127 #[.pointer (some ⟨D, 0, none⟩), .string t] w1 fun e w' => e = .returned (.tuple #[.int .i64 (M.pos (names L) t : Nat), .bool false]) ∧ Below w1.heap.size w1 w') := by
    show ∀ w1, _
    intro w1 hw1
    have := find_any (h.on hw1) hr t
    rw [ht] at this
    exact this
  generalize M.pos (names L) t = i at *
  obtain ⟨c0, _, _, c3, _⟩ := h.cells
  clear h ht htn c0
  go_enter Tryz.func112, Tryz.ntmps112
  go_wp2_with fail
  refine (HN.out _).mono ?_
  rintro e w1 ⟨rfl, hb1⟩
  have q0 := cell_on hb1 (a := ⟨w.heap.size, 0, none⟩) (v := .string ⟨#[]⟩) (by simp)
  have q1 := cell_on hb1 (a := ⟨w.heap.size, 1, none⟩) (v := .slice none 0 0) (by simp)
  have q2 := cell_on hb1 (a := ⟨w.heap.size, 2, none⟩) (v := .slice none 0 0) (by simp)
  have hfz : ∀ j, w1.frozen? ⟨w.heap.size, j, none⟩ = false := fun j => by rw [hb1.frozen (p := ⟨w.heap.size, j, none⟩) (by simp)]; exact World.frozen?_alloc_at _ _ _ _ rfl
  have hz : w.heap.size + 1 ≤ w1.heap.size := by have := hb1.size; simpa using this
  replace hb1 : Below w.heap.size w w1 := ((Below.refl _ _).alloc (Nat.le_refl _) _).trans (hb1.mono (by simp))
  have c4 := cell_on hb1 c3
  have HB := Hid.mk' hb1
  have HF1 := Hid.mk' hfz
  clear hb1 hfz HN
  go_wp2_with fail
  refine (HFi.out _ HB.out).mono ?_
  rintro e w2 ⟨rfl, hb2⟩
  replace q0 := cell_on hb2 q0
  replace q1 := cell_on hb2 q1
  replace q2 := cell_on hb2 q2
  have hfz : ∀ j, w2.frozen? ⟨w.heap.size, j, none⟩ = false := fun j => by rw [hb2.frozen (p := ⟨w.heap.size, j, none⟩) (by show w.heap.size < _; omega)]; exact HF1.out j
  have f0 := hfz 0
  have f1 := hfz 1
  have f2 := hfz 2
  replace hb2 : Below w.heap.size w w2 := HB.out.trans (hb2.mono HB.out.size)
  have HB2 := Hid.mk' hb2
  clear hb2 hfz HFi HF1
  go_wp2
  refine bodyPost_ret ?_ rfl ⟨rfl, ?_⟩
  · simp [results, Tryz.results112, go_sem, q0, q1, q2]
  · refine Below.setCell (Below.setCell (Below.setCell HB2.out ?_ _) ?_ _) ?_ _ <;> exact Nat.le_refl _

set_option maxRecDepth 100000 in
set_option maxHeartbeats 400000 in
theorem size_none {w : World} {D mb : Nat} {v : Value} {L : List FR} {f : Int → Int} {s : Int} (h : Dk w D mb v L f s false) (hr : M.rise (names L)) (t : ByteArray) (htn : M.nam t = true) (ht : M.has (names L) t = false) :
    Calls Tryz.prog 91 #[.pointer (some ⟨D, 0, none⟩), .string t] w fun e w' => e = .returned (.tuple #[.int .i64 0, .int .i64 2]) ∧ Below w.heap.size w w' := by
  have HK := Hid.mk' (look_none h hr t htn ht)
  clear h
  go_enter Tryz.func91, Tryz.ntmps91
  go_wp2_with fail
  refine HK.out.mono ?_
  rintro e w1 ⟨rfl, hb⟩
  have HB := Hid.mk' hb
  have hz := hb.size
  clear hb
  go_wp2
  go_ret2
  exact ⟨rfl, HB.out.alloc hz _⟩

set_option maxRecDepth 100000 in
set_option maxHeartbeats 400000 in
theorem read_none {w : World} {D mb : Nat} {v : Value} {L : List FR} {f : Int → Int} {s : Int} (h : Dk w D mb v L f s false) (hr : M.rise (names L)) (t : ByteArray) (htn : M.nam t = true) (ht : M.has (names L) t = false) (p n : Int) (hp : 0 ≤ p ∧ p ≤ 4194304) (hn : 0 ≤ n ∧ n ≤ 4194304) :
    Calls Tryz.prog 97 #[.pointer (some ⟨D, 0, none⟩), .string t, .int .i64 p, .int .i64 n] w fun e w' => e = .returned (.tuple #[.slice none 0 0, .int .i64 2]) ∧ Below w.heap.size w w' := by
  have HP := Hid.mk' (length_any p)
  rw [show decide (0 ≤ p ∧ p ≤ 4194304) = true by rw [decide_eq_true_iff]; exact hp] at HP
  have HN := Hid.mk' (length_any n)
  rw [show decide (0 ≤ n ∧ n ≤ 4194304) = true by rw [decide_eq_true_iff]; exact hn] at HN
  have HK := Hid.mk' (look_none h hr t htn ht)
  clear h hp hn
  go_enter Tryz.func97, Tryz.ntmps97
  go_wp2_with fail
  refine (HP.out _).mono ?_
  rintro e w1 ⟨rfl, hw⟩
  obtain rfl := hw.symm
  clear hw
  go_wp2_with fail
  refine (HN.out _).mono ?_
  rintro e w1 ⟨rfl, hw⟩
  obtain rfl := hw.symm
  clear hw
  go_wp2_with fail
  refine HK.out.mono ?_
  rintro e w1 ⟨rfl, hb⟩
  have HB := Hid.mk' hb
  have hz := hb.size
  clear hb
  go_wp2
  go_ret2
  exact ⟨rfl, HB.out.alloc hz _⟩

/-- A part of what a slice shows. -/
theorem Sees.part {w : World} {na : Option Addr} {n c : Nat} {l : List Nat} (h : Sees w (.slice na n c) l) (p m c' : Nat) (hp : p + m ≤ l.length) : Sees w (.slice (na.map (·.add p)) m c') ((l.drop p).take m) := by
  obtain ⟨⟨a', c1, he, hc⟩, hm⟩ := h
  obtain ⟨rfl, _⟩ := by simpa using he
  have hl : ((l.drop p).take m).length = m := by rw [List.length_take, List.length_drop]; omega
  refine ⟨⟨na.map (·.add p), c', by rw [hl], fun h1 => ?_⟩, by omega⟩
  rw [hl] at h1
  obtain ⟨b, o, rfl, hj⟩ := hc (by omega)
  refine ⟨b, o + p, by rw [Option.map_some, Addr.add_lit], fun j hj' => ?_⟩
  rw [hl] at hj'
  rw [Nat.add_assoc, hj (p + j) (by omega)]
  congr 2
  rw [List.getD_eq_getElem?_getD, List.getD_eq_getElem?_getD, List.getElem?_take, if_pos hj', List.getElem?_drop]
theorem Sees.none' (w : World) (a : Option Addr) (c : Nat) : Sees w (.slice a 0 c) [] := ⟨⟨a, c, rfl, fun h => absurd h (by simp)⟩, by simp⟩

set_option maxRecDepth 100000 in
set_option maxHeartbeats 2000000 in
/-- A piece of a file's bytes. -/
theorem fread_any (fb : Nat) (na : Option Addr) (nc : Nat) (l : List Nat) (w : World) (c2 : w.cell? ⟨fb, 2, none⟩ = some (.slice na l.length nc)) (hl : l.length ≤ 4194304) (hnc : l.length ≤ nc) (hncm : nc ≤ 9223372036854775807) (hs : Sees w (.slice na l.length nc) l) (p m : Nat) (hp : p ≤ 4194304) (hm : m ≤ 4194304) :
    Calls Tryz.prog 115 #[.pointer (some ⟨fb, 0, none⟩), .int .i64 p, .int .i64 m] w fun e w' => ∃ v', e = .returned v' ∧ Rw w' v' ((l.drop p).take m) ∧ Below w.heap.size w w' ∧ ∀ k, v'.ownBlock = some k → w.heap.size ≤ k := by
  obtain ⟨n, hn⟩ : ∃ n, l.length = n := ⟨_, rfl⟩
  rw [hn] at c2 hl hnc hs
  have hncI : (n : Int) ≤ (nc : Int) := by omega
  have hn0 : (0 : Int) ≤ (n : Int) := by omega
  have hp0 : (0 : Int) ≤ (p : Int) := by omega
  have ewn : IntKind.i64.wrap (n : Int) = n := by simp only [IntKind.wrap, IntKind.bits, IntKind.signed]; simp; omega
  by_cases h1 : p < n
  · have i1 : (p : Int) < (n : Int) := by omega
    have hne : ¬ nc = p := by omega
    obtain ⟨y, e1, e2⟩ : ∃ y : Nat, (p : Int) + (m : Int) = (y : Int) ∧ p + m = y := ⟨p + m, by omega, rfl⟩
    have ewy : IntKind.i64.wrap (y : Int) = y := by simp only [IntKind.wrap, IntKind.bits, IntKind.signed]; simp; omega
    have iy : (p : Int) ≤ (y : Int) := by omega
    have ip : (p : Int) ≤ (n : Int) := by omega
    rcases Nat.lt_trichotomy y n with h2 | h2 | h2
    · have i2 : (y : Int) < (n : Int) := by omega
      have i3 : (y : Int) ≤ (nc : Int) := by omega
      have i5 : (y : Int) ≤ (n : Int) := by omega
      have i7 : ¬ (n : Int) < (y : Int) := by omega
      have HS := Hid.mk' (hs.part p (y - p) (nc - p) (by omega))
      have hy : (l.drop p).take m = (l.drop p).take (y - p) := by rw [show y - p = m by omega]
      rw [hy]
      have hlc : ((l.drop p).take (y - p)).length ≤ 4194304 := by rw [List.length_take]; omega
      generalize (l.drop p).take (y - p) = c at *
      clear hs hn hy e2
      go_enter Tryz.func115, Tryz.ntmps115
      go_upto_region 2 with fail
      have hS := Hid.mk' (show (fun w' : World => w'.cell? ⟨fb, 2, none⟩ = some (.slice na n nc)) w from c2)
      go_region_held3 (fun w' : World => w'.cell? ⟨fb, 2, none⟩ = some (.slice na n nc)) (first | exact hS.out | assumption | go_keep)
        (first | (go_at_call 32; refine (clone_any _ _ _ (HS.out.drew) (by omega)).mono ?_; rintro e' w2 ⟨v', rfl, hR, hb2, hf2⟩; have hS := Hid.mk' (show (fun w' : World => w'.cell? ⟨fb, 2, none⟩ = some (.slice na n nc)) w2 from cell_on hb2 c2)))
      all_goals
        have HR := Hid.mk' hR
        have HF2 := Hid.mk' hf2
        have HB : Hid (Below w.heap.size w w2) := (Below.refl _ _).drew.trans hb2
        clear hR hb2 hf2
        go_wp2
        go_ret
        exact ⟨_, rfl, HR.out, HB.out, HF2.out⟩
    · subst h2
      have HS := Hid.mk' (hs.part p (y - p) (nc - p) (by omega))
      have hy : (l.drop p).take m = (l.drop p).take (y - p) := by rw [show y - p = m by omega]
      rw [hy]
      have hlc : ((l.drop p).take (y - p)).length ≤ 4194304 := by rw [List.length_take]; omega
      generalize (l.drop p).take (y - p) = c at *
      clear hs hn hy e2
      go_enter Tryz.func115, Tryz.ntmps115
      go_upto_region 2 with fail
      have hS := Hid.mk' (show (fun w' : World => w'.cell? ⟨fb, 2, none⟩ = some (.slice na y nc)) w from c2)
      go_region_held3 (fun w' : World => w'.cell? ⟨fb, 2, none⟩ = some (.slice na y nc)) (first | exact hS.out | assumption | go_keep)
        (first | (go_at_call 32; refine (clone_any _ _ _ (HS.out.drew) (by omega)).mono ?_; rintro e' w2 ⟨v', rfl, hR, hb2, hf2⟩; have hS := Hid.mk' (show (fun w' : World => w'.cell? ⟨fb, 2, none⟩ = some (.slice na y nc)) w2 from cell_on hb2 c2)))
      all_goals
        have HR := Hid.mk' hR
        have HF2 := Hid.mk' hf2
        have HB : Hid (Below w.heap.size w w2) := (Below.refl _ _).drew.trans hb2
        clear hR hb2 hf2
        go_wp2
        go_ret
        exact ⟨_, rfl, HR.out, HB.out, HF2.out⟩
    · have i2 : (n : Int) < (y : Int) := by omega
      have HS := Hid.mk' (hs.part p (n - p) (nc - p) (by omega))
      have hy : (l.drop p).take m = (l.drop p).take (n - p) := by rw [List.take_of_length_le (by rw [List.length_drop]; omega), List.take_of_length_le (by rw [List.length_drop]; omega)]
      rw [hy]
      have hlc : ((l.drop p).take (n - p)).length ≤ 4194304 := by rw [List.length_take]; omega
      generalize (l.drop p).take (n - p) = c at *
      clear hs hn hy e2
      go_enter Tryz.func115, Tryz.ntmps115
      go_upto_region 2 with fail
      have hS := Hid.mk' (show (fun w' : World => w'.cell? ⟨fb, 2, none⟩ = some (.slice na n nc)) w from c2)
      go_region_held3 (fun w' : World => w'.cell? ⟨fb, 2, none⟩ = some (.slice na n nc)) (first | exact hS.out | assumption | go_keep)
        (first | (go_at_call 32; refine (clone_any _ _ _ (HS.out.drew) (by omega)).mono ?_; rintro e' w2 ⟨v', rfl, hR, hb2, hf2⟩; have hS := Hid.mk' (show (fun w' : World => w'.cell? ⟨fb, 2, none⟩ = some (.slice na n nc)) w2 from cell_on hb2 c2)))
      all_goals
        have HR := Hid.mk' hR
        have HF2 := Hid.mk' hf2
        have HB : Hid (Below w.heap.size w w2) := (Below.refl _ _).drew.trans hb2
        clear hR hb2 hf2
        go_wp2
        go_ret
        exact ⟨_, rfl, HR.out, HB.out, HF2.out⟩
  · have hy : (l.drop p).take m = [] := by rw [List.drop_of_length_le (by omega), List.take_nil]
    rw [hy]
    clear hy hs hn
    have hlc : ([] : List Nat).length ≤ 4194304 := by simp
    have hpn : n = p ∨ n < p := by omega
    have hm0 : 0 = m ∨ 0 < m := by omega
    have hcn : n = nc ∨ ¬ nc = n := by omega
    obtain ⟨y, e1, e2⟩ : ∃ y : Nat, (n : Int) + (m : Int) = (y : Int) ∧ n + m = y := ⟨n + m, by omega, rfl⟩
    have ewy : IntKind.i64.wrap (y : Int) = y := by simp only [IntKind.wrap, IntKind.bits, IntKind.signed]; simp; omega
    clear h1
    rcases hcn with hcn | hcn
    · subst hcn
      have HS := Hid.mk' (Sees.none' w na 0)
      rcases hpn with hpn | hpn
      all_goals rcases hm0 with hm0 | hm0
      all_goals (try (have ipn : (n : Int) < (p : Int) := by omega))
      all_goals (try (have imn : (n : Int) < (y : Int) := by omega))
      all_goals (try (subst hpn))
      all_goals (try (subst hm0; clear e1 ewy e2))
      all_goals (try clear e2)
      all_goals
        go_enter Tryz.func115, Tryz.ntmps115
        go_upto_region 2 with fail
        have hS := Hid.mk' (show (fun w' : World => w'.cell? ⟨fb, 2, none⟩ = some (.slice na n n)) w from c2)
        go_region_held3 (fun w' : World => w'.cell? ⟨fb, 2, none⟩ = some (.slice na n n)) (first | exact hS.out | assumption | go_keep)
          (first | (go_at_call 32; refine (clone_any _ _ _ (HS.out.drew) (by omega)).mono ?_; rintro e' w2 ⟨v', rfl, hR, hb2, hf2⟩; have hS := Hid.mk' (show (fun w' : World => w'.cell? ⟨fb, 2, none⟩ = some (.slice na n n)) w2 from cell_on hb2 c2)))
        all_goals
          have HR := Hid.mk' hR
          have HF2 := Hid.mk' hf2
          have HB : Hid (Below w.heap.size w w2) := (Below.refl _ _).drew.trans hb2
          clear hR hb2 hf2
          go_wp2
          go_ret
          exact ⟨_, rfl, HR.out, HB.out, HF2.out⟩
    · have HS := Hid.mk' (Sees.none' w (na.map (·.add n)) (nc - n))
      rcases hpn with hpn | hpn
      all_goals rcases hm0 with hm0 | hm0
      all_goals (try (have ipn : (n : Int) < (p : Int) := by omega))
      all_goals (try (have imn : (n : Int) < (y : Int) := by omega))
      all_goals (try (subst hpn))
      all_goals (try (subst hm0; clear e1 ewy e2))
      all_goals (try clear e2)
      all_goals
        go_enter Tryz.func115, Tryz.ntmps115
        go_upto_region 2 with fail
        have hS := Hid.mk' (show (fun w' : World => w'.cell? ⟨fb, 2, none⟩ = some (.slice na n nc)) w from c2)
        go_region_held3 (fun w' : World => w'.cell? ⟨fb, 2, none⟩ = some (.slice na n nc)) (first | exact hS.out | assumption | go_keep)
          (first | (go_at_call 32; refine (clone_any _ _ _ (HS.out.drew) (by omega)).mono ?_; rintro e' w2 ⟨v', rfl, hR, hb2, hf2⟩; have hS := Hid.mk' (show (fun w' : World => w'.cell? ⟨fb, 2, none⟩ = some (.slice na n nc)) w2 from cell_on hb2 c2)))
        all_goals
          have HR := Hid.mk' hR
          have HF2 := Hid.mk' hf2
          have HB : Hid (Below w.heap.size w w2) := (Below.refl _ _).drew.trans hb2
          clear hR hb2 hf2
          go_wp2
          go_ret
          exact ⟨_, rfl, HR.out, HB.out, HF2.out⟩

set_option maxRecDepth 100000 in
set_option maxHeartbeats 1000000 in
theorem read_any {w : World} {D mb : Nat} {v : Value} {L : List FR} {f : Int → Int} {s : Int} (h : Dk w D mb v L f s false) (hr : M.rise (names L)) (t : ByteArray) (htn : M.nam t = true) (ht : M.has (names L) t = true) (p m : Nat) (hp : p ≤ 4194304) (hm : m ≤ 4194304) :
    Calls Tryz.prog 97 #[.pointer (some ⟨D, 0, none⟩), .string t, .int .i64 p, .int .i64 m] w fun e w' => ∃ v', e = .returned (.tuple #[v', .int .i64 0]) ∧ Rw w' v' (((L.getD (M.pos (names L) t) z0).seen.drop p).take m) ∧ Below w.heap.size w w' ∧ ∀ k, v'.ownBlock = some k → w.heap.size ≤ k := by
  have HK := Hid.mk' (look_there h hr t htn ht)
  have HP := Hid.mk' (length_any (p : Int))
  have HN := Hid.mk' (length_any (m : Int))
  rw [show decide (0 ≤ (p : Int) ∧ (p : Int) ≤ 4194304) = true by rw [decide_eq_true_iff]; omega] at HP
  rw [show decide (0 ≤ (m : Int) ∧ (m : Int) ≤ 4194304) = true by rw [decide_eq_true_iff]; omega] at HN
  obtain ⟨hi, _⟩ := has_pos hr ht
  rw [names_length] at hi
  generalize M.pos (names L) t = i at *
  obtain ⟨hsv, hnv⟩ := h.2.2.1 _ (getD_mem L hi)
  obtain ⟨sa, sc, hsl, _, _⟩ := hsv.slice
  obtain ⟨na, nc, hnl, hncl, hncm⟩ := hnv.slice
  have HSe := Hid.mk' hnv.sees
  rw [hnl] at HSe
  rw [hsl, hnl] at HK
  have h4 := hnv.2
  generalize (L.getD i z0).nm = nm at *
  generalize (L.getD i z0).safe.length = sl at *
  generalize (L.getD i z0).seen = l at *
  clear h hsv hnv hsl hnl
  go_enter Tryz.func97, Tryz.ntmps97
  go_wp2_with fail
  refine (HP.out _).mono ?_
  rintro e w1 ⟨rfl, hw⟩
  obtain rfl := hw.symm
  clear hw
  go_wp2_with fail
  refine (HN.out _).mono ?_
  rintro e w1 ⟨rfl, hw⟩
  obtain rfl := hw.symm
  clear hw
  go_wp2_with fail
  refine HK.out.mono ?_
  rintro e w1 ⟨rfl, hb⟩
  have hz := hb.size
  have HB := Hid.mk' hb
  have HR := Hid.mk' (fread_any w1.heap.size na nc l (w1.alloc (.cells #[.string nm, .slice sa sl sc, .slice na l.length nc] 83)) (by simp) h4 hncl hncm ((HSe.out.below hb).below ((Below.refl _ _).alloc (Nat.le_refl _) _)) p m hp hm)
  clear hb
  go_wp2_with fail
  refine HR.out.mono ?_
  rintro e w2 ⟨v', rfl, hR, hb2, hf2⟩
  have HF2 : Hid (∀ k, v'.ownBlock = some k → w.heap.size ≤ k) := (fun k hk => by have h1 := hf2 k hk; simp at h1; omega)
  have HR2 := Hid.mk' hR
  have HB2 : Hid (Below w.heap.size w w2) := (HB.out.alloc hz _).trans (hb2.mono (by simp; omega))
  clear hR hb2 hf2
  go_wp2
  go_ret2
  exact ⟨_, rfl, HR2.out, HB2.out, HF2.out⟩

end Go.Proofs.YtjimhikfmccicaaGreat
