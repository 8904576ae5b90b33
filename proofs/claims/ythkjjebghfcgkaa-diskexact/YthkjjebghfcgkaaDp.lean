/-
  A call on both disks: what each of them tells is the same.
-/
import Derived.Test.YthkjjebghfcgkaaBo
namespace Go.Proofs.Ythkjjebghfcgkaa
open Go.RowKit Go.Maps

/-- Cells of neither disk stay. -/
def KP (D mb : Nat) (dv : Value) (L : List FR) (R : Nat) (rv tv : Value) (L2 : List FR) (w w' : World) : Prop :=
  ∀ a u, w.cell? a = some u → a.block ∉ foot D mb dv L → a.block ∉ rall R rv tv L2 → w'.cell? a = some u

theorem rf_all {R : Nat} {rv tv : Value} {L2 : List FR} {k : Nat} (h : k ∈ rf R rv) : k ∈ rall R rv tv L2 := by
  simp only [rf, rall, List.mem_cons, List.mem_append] at h ⊢
  rcases h with h | h
  · exact .inl h
  · exact .inr (.inl h)

theorem stroke_pair {w0 w : World} {D mb : Nat} {dv : Value} {L : List FR} {T : List (Int × Int)} {s : Int} {off : Bool} {R : Nat} {rv tv : Value} {L2 : List FR} (h : Bo w0 w D mb dv L T s off R rv tv L2) {q : S3} (hq : M.rise (nmA q.2.1) ∧ M.rise (nmA q.2.2)) {F1 F2 : FuncId} {A1 A2 : Array Value}
    (hp : ∀ wx, Below w.heap.size w wx → Calls Try.prog F1 A1 wx (OpP wx D mb dv L (first T) s off q)) (hr : ∀ w1, RD w1 R rv tv L2 T s off → Calls Try.prog F2 A2 w1 (ROp w1 R rv tv L2 T s off q)) :
    ∃ (rr : Int) (P : World → Prop), (∀ wx, Below w.heap.size w wx → Calls Try.prog F1 A1 wx fun e w1 => e = .returned (.int .i64 rr) ∧ P w1) ∧
      ∀ w1, P w1 → KP D mb dv L R rv tv L2 w w1 ∧ Calls Try.prog F2 A2 w1 fun e w2 => e = .returned (.int .i64 rr) ∧ DoP w0 D mb T s R tv w2 ∧ KP D mb dv L R rv tv L2 w w2 := by
  refine ⟨(mSt (L.map fabs) off (first T (s + 1)) q).1, fun w1 => ∃ dv' L', Moved w D mb dv L (first T) (s + 1) (mSt (L.map fabs) off (first T (s + 1)) q).2.2 dv' L' w1 ∧ L'.map fabs = (mSt (L.map fabs) off (first T (s + 1)) q).2.1, fun wx hb => ?_, ?_⟩
  · refine (hp wx hb).mono ?_
    rintro e w1 ⟨rfl, v', L', hM, he⟩
    exact ⟨rfl, v', L', Moved.since (Fr.of_below hb) hM, he⟩
  · rintro w1 ⟨dv', L', hM, he⟩
    refine ⟨fun a u hu h1 _ => hM.2.1.cell hu h1, (hr w1 (h.half hM)).mono ?_⟩
    rintro e w2 ⟨rfl, rv', L2', hM2, he2⟩
    refine ⟨by rw [h.eq], h.stroke hq hM he hM2 he2, fun a u hu h1 h2 => hM2.2.1.cell (hM.2.1.cell hu h1) (fun hm => h2 (rf_all hm))⟩

theorem form_pair {w0 w : World} {D mb : Nat} {dv : Value} {L : List FR} {T : List (Int × Int)} {s : Int} {off : Bool} {R : Nat} {rv tv : Value} {L2 : List FR} (h : Bo w0 w D mb dv L T s off R rv tv L2) {F1 F2 : FuncId} {A1 A2 : Array Value}
    (hp : ∀ wx, Calls Try.prog F1 A1 wx fun e w' => e = .returned (.int .i64 1) ∧ Below wx.heap.size wx w') (hr : ∀ w1, Calls Try.prog F2 A2 w1 fun e w' => e = .returned (.int .i64 1) ∧ w' = w1) :
    ∃ (rr : Int) (P : World → Prop), (∀ wx, Below w.heap.size w wx → Calls Try.prog F1 A1 wx fun e w1 => e = .returned (.int .i64 rr) ∧ P w1) ∧
      ∀ w1, P w1 → KP D mb dv L R rv tv L2 w w1 ∧ Calls Try.prog F2 A2 w1 fun e w2 => e = .returned (.int .i64 rr) ∧ DoP w0 D mb T s R tv w2 ∧ KP D mb dv L R rv tv L2 w w2 := by
  refine ⟨1, fun w1 => Below w.heap.size w w1, fun wx hb => ?_, fun w1 hb => ?_⟩
  · refine (hp wx).mono ?_
    rintro e w1 ⟨rfl, hb2⟩
    exact ⟨rfl, hb.trans (hb2.mono hb.size)⟩
  · refine ⟨fun a u hu _ _ => cell_on hb hu, (hr w1).mono ?_⟩
    rintro e w2 ⟨rfl, rfl⟩
    exact ⟨rfl, (h.below hb).done, fun a u hu _ _ => cell_on hb hu⟩

theorem sync_pair {w0 w : World} {D mb : Nat} {dv : Value} {L : List FR} {T : List (Int × Int)} {s : Int} {off : Bool} {R : Nat} {rv tv : Value} {L2 : List FR} (h : Bo w0 w D mb dv L T s off R rv tv L2) (hs : 0 ≤ s ∧ s ≤ 1000000) (hT : T.all tOk = true) (t : ByteArray) :
    ∃ (rr : Int) (P : World → Prop), (∀ wx, Below w.heap.size w wx → Calls Try.prog 19 #[.pointer (some ⟨D, 0, none⟩), .string t] wx fun e w1 => e = .returned (.int .i64 rr) ∧ P w1) ∧
      ∀ w1, P w1 → KP D mb dv L R rv tv L2 w w1 ∧ Calls Try.prog 38 #[.pointer (some ⟨R, 0, none⟩), .string t] w1 fun e w2 => e = .returned (.int .i64 rr) ∧ DoP w0 D mb T s R tv w2 ∧ KP D mb dv L R rv tv L2 w w2 := by
  cases hn : M.nam t with
  | true =>
    refine stroke_pair h (q := mSync (L.map fabs) t) (rise_mSync (by rw [nmA_fabs]; exact h.ri) t) (fun wx hb => sync_ex (h.lw.dk.on hb) hs (first_few hT _) h.ri t hn) (fun w1 hD => ?_)
    have := rsync_any hD hs hT h.ri2 t hn
    rw [h.eq] at this
    exact this
  | false => exact form_pair h (fun wx => sync_form D t hn wx) (fun w1 => rsync_form R w1 t hn)
theorem delete_pair {w0 w : World} {D mb : Nat} {dv : Value} {L : List FR} {T : List (Int × Int)} {s : Int} {off : Bool} {R : Nat} {rv tv : Value} {L2 : List FR} (h : Bo w0 w D mb dv L T s off R rv tv L2) (hs : 0 ≤ s ∧ s ≤ 1000000) (hT : T.all tOk = true) (t : ByteArray) :
    ∃ (rr : Int) (P : World → Prop), (∀ wx, Below w.heap.size w wx → Calls Try.prog 22 #[.pointer (some ⟨D, 0, none⟩), .string t] wx fun e w1 => e = .returned (.int .i64 rr) ∧ P w1) ∧
      ∀ w1, P w1 → KP D mb dv L R rv tv L2 w w1 ∧ Calls Try.prog 39 #[.pointer (some ⟨R, 0, none⟩), .string t] w1 fun e w2 => e = .returned (.int .i64 rr) ∧ DoP w0 D mb T s R tv w2 ∧ KP D mb dv L R rv tv L2 w w2 := by
  cases hn : M.nam t with
  | true =>
    refine stroke_pair h (q := mDel (L.map fabs) t) (rise_mDel (by rw [nmA_fabs]; exact h.ri) t) (fun wx hb => delete_ex (h.lw.dk.on hb) hs (first_few hT _) h.ri t hn) (fun w1 hD => ?_)
    have := rdelete_any hD hs hT h.ri2 t hn
    rw [h.eq] at this
    exact this
  | false => exact form_pair h (fun wx => delete_form D t hn wx) (fun w1 => rdelete_form R w1 t hn)
theorem trunc_pair {w0 w : World} {D mb : Nat} {dv : Value} {L : List FR} {T : List (Int × Int)} {s : Int} {off : Bool} {R : Nat} {rv tv : Value} {L2 : List FR} (h : Bo w0 w D mb dv L T s off R rv tv L2) (hs : 0 ≤ s ∧ s ≤ 1000000) (hT : T.all tOk = true) (t : ByteArray) (n : Int) :
    ∃ (rr : Int) (P : World → Prop), (∀ wx, Below w.heap.size w wx → Calls Try.prog 21 #[.pointer (some ⟨D, 0, none⟩), .string t, .int .i64 n] wx fun e w1 => e = .returned (.int .i64 rr) ∧ P w1) ∧
      ∀ w1, P w1 → KP D mb dv L R rv tv L2 w w1 ∧ Calls Try.prog 37 #[.pointer (some ⟨R, 0, none⟩), .string t, .int .i64 n] w1 fun e w2 => e = .returned (.int .i64 rr) ∧ DoP w0 D mb T s R tv w2 ∧ KP D mb dv L R rv tv L2 w w2 := by
  by_cases hf : M.nam t = true ∧ 0 ≤ n ∧ n ≤ 4194304
  · obtain ⟨hn, h0, h4⟩ := hf
    obtain ⟨m, rfl⟩ : ∃ m : Nat, n = (m : Int) := ⟨n.toNat, by omega⟩
    refine stroke_pair h (q := mTrunc (L.map fabs) t m) (rise_mTrunc (by rw [nmA_fabs]; exact h.ri) t m) (fun wx hb => truncate_ex (h.lw.dk.on hb) hs (first_few hT _) h.ri t hn m (by omega)) (fun w1 hD => ?_)
    have := rtrunc_any hD hs hT h.ri2 t hn m (by omega)
    rw [h.eq] at this
    exact this
  · have hf' : M.nam t = false ∨ ¬ (0 ≤ n ∧ n ≤ 4194304) := by
      cases hn : M.nam t with
      | true => right; exact fun hx => hf ⟨hn, hx⟩
      | false => exact .inl rfl
    exact form_pair h (fun wx => truncate_form D t n hf' wx) (fun w1 => rtrunc_form R w1 t n hf')

theorem size_pair {w0 w : World} {D mb : Nat} {dv : Value} {L : List FR} {T : List (Int × Int)} {s : Int} {off : Bool} {R : Nat} {rv tv : Value} {L2 : List FR} (h : Bo w0 w D mb dv L T s off R rv tv L2) (t : ByteArray) :
    ∃ (n rr : Int), (∀ wx, Below w.heap.size w wx → Calls Try.prog 29 #[.pointer (some ⟨D, 0, none⟩), .string t] wx fun e w1 => e = .returned (.tuple #[.int .i64 n, .int .i64 rr]) ∧ Below wx.heap.size wx w1) ∧
      ∀ wx, Below w.heap.size w wx → Calls Try.prog 41 #[.pointer (some ⟨R, 0, none⟩), .string t] wx fun e w1 => e = .returned (.tuple #[.int .i64 n, .int .i64 rr]) ∧ w1 = wx := by
  have hr := fun (wx : World) (hb : Below w.heap.size w wx) => rsize_any (h.rd.on hb) h.ri2 t
  have en : names L2 = names L := by rw [← nmA_fabs, h.eq, nmA_fabs]
  cases hn : M.nam t with
  | false =>
    refine ⟨0, 1, fun wx hb => size_form D wx t hn, fun wx hb => ?_⟩
    have := hr wx hb
    rw [hn] at this
    exact this
  | true =>
    cases off with
    | true =>
      refine ⟨0, 9, fun wx hb => size_dark (h.lw.dk.on hb) t hn, fun wx hb => ?_⟩
      have := hr wx hb
      rw [hn] at this
      exact this
    | false =>
      by_cases hh : M.has (names L) t = true
      · refine ⟨_, 0, fun wx hb => size_there (h.lw.dk.on hb) h.ri t hn hh, fun wx hb => ?_⟩
        have := hr wx hb
        rw [hn, en, if_neg (by decide), if_neg (by decide), if_pos hh] at this
        have e2 : (L2.getD (M.pos (names L) t) z0).seen = (L.getD (M.pos (names L) t) z0).seen := by
          have := congrArg (fun A => ((A.getD (M.pos (names L) t) zA).2.2 : List Nat)) h.eq
          simp only [fabs_getD] at this
          exact this
        rw [e2] at this
        exact this
      · refine ⟨0, 2, fun wx hb => size_none (h.lw.dk.on hb) h.ri t hn (by simpa using hh), fun wx hb => ?_⟩
        have := hr wx hb
        rw [hn, en, if_neg (by decide), if_neg (by decide), if_neg hh] at this
        exact this

theorem read_pair {w0 w : World} {D mb : Nat} {dv : Value} {L : List FR} {T : List (Int × Int)} {s : Int} {off : Bool} {R : Nat} {rv tv : Value} {L2 : List FR} (h : Bo w0 w D mb dv L T s off R rv tv L2) (t : ByteArray) (p n : Int) :
    ∃ (l : List Nat) (rr : Int), (∀ wx, Below w.heap.size w wx → Calls Try.prog 27 #[.pointer (some ⟨D, 0, none⟩), .string t, .int .i64 p, .int .i64 n] wx fun e w1 => ∃ a c, e = .returned (.tuple #[.slice a l.length c, .int .i64 rr]) ∧ Rw w1 (.slice a l.length c) l ∧ (∀ k, (Value.slice a l.length c).ownBlock = some k → wx.heap.size ≤ k) ∧ Below wx.heap.size wx w1) ∧
      ∀ wx, Below w.heap.size w wx → Calls Try.prog 40 #[.pointer (some ⟨R, 0, none⟩), .string t, .int .i64 p, .int .i64 n] wx fun e w1 => ∃ a c, e = .returned (.tuple #[.slice a l.length c, .int .i64 rr]) ∧ Sees w1 (.slice a l.length c) l ∧ Below wx.heap.size wx w1 := by
  have en : names L2 = names L := by rw [← nmA_fabs, h.eq, nmA_fabs]
  have nil1 : ∀ {F : FuncId} {A : Array Value} {wx : World} {rr : Int}, (Calls Try.prog F A wx fun e w' => e = .returned (.tuple #[.slice none 0 0, .int .i64 rr]) ∧ Below wx.heap.size wx w') → Calls Try.prog F A wx fun e w1 => ∃ a c, e = .returned (.tuple #[.slice a ([] : List Nat).length c, .int .i64 rr]) ∧ Rw w1 (.slice a ([] : List Nat).length c) [] ∧ (∀ k, (Value.slice a ([] : List Nat).length c).ownBlock = some k → wx.heap.size ≤ k) ∧ Below wx.heap.size wx w1 := fun hc => hc.mono (by
    rintro e w1 ⟨rfl, hb⟩
    exact ⟨none, 0, rfl, Rw.nil _, fun k hk => by simp [Value.ownBlock] at hk, hb⟩)
  have nil2 : ∀ {F : FuncId} {A : Array Value} {wx : World} {rr : Int}, (Calls Try.prog F A wx fun e w' => e = .returned (.tuple #[.slice none 0 0, .int .i64 rr]) ∧ w' = wx) → Calls Try.prog F A wx fun e w1 => ∃ a c, e = .returned (.tuple #[.slice a ([] : List Nat).length c, .int .i64 rr]) ∧ Sees w1 (.slice a ([] : List Nat).length c) [] ∧ Below wx.heap.size wx w1 := fun hc => hc.mono (by
    rintro e w1 ⟨rfl, rfl⟩
    exact ⟨none, 0, rfl, (Rw.nil _).sees, Below.refl _ _⟩)
  by_cases hf : (0 ≤ p ∧ p ≤ 4194304) ∧ 0 ≤ n ∧ n ≤ 4194304
  · cases hn : M.nam t with
    | false => exact ⟨[], 1, fun wx hb => nil1 (read_form D wx t hn p n hf.1 hf.2), fun wx hb => nil2 (rread_form R wx t p n (.inl hn))⟩
    | true =>
      cases off with
      | true => exact ⟨[], 9, fun wx hb => nil1 (read_dark (h.lw.dk.on hb) t hn p n hf.1 hf.2), fun wx hb => nil2 (rread_off (h.rd.on hb) t hn p n hf.1 hf.2)⟩
      | false =>
        by_cases hh : M.has (names L) t = true
        · obtain ⟨p, rfl⟩ : ∃ m : Nat, p = (m : Int) := ⟨p.toNat, by omega⟩
          obtain ⟨n, rfl⟩ : ∃ m : Nat, n = (m : Int) := ⟨n.toNat, by omega⟩
          refine ⟨((L.getD (M.pos (names L) t) z0).seen.drop p).take n, 0, fun wx hb => ?_, fun wx hb => ?_⟩
          · refine (read_any (h.lw.dk.on hb) h.ri t hn hh p n (by omega) (by omega)).mono ?_
            rintro e w1 ⟨v', rfl, hR, hb1, hf1⟩
            obtain ⟨a, c, rfl, _, _⟩ := hR.slice
            exact ⟨a, c, rfl, hR, hf1, hb1⟩
          · have e2 : (L2.getD (M.pos (names L) t) z0).seen = (L.getD (M.pos (names L) t) z0).seen := by
              have := congrArg (fun A => ((A.getD (M.pos (names L) t) zA).2.2 : List Nat)) h.eq
              simp only [fabs_getD] at this
              exact this
            have hc := rread_any (h.rd.on hb) h.ri2 t hn (by rw [en]; exact hh) p n (by omega) (by omega)
            rw [en, e2] at hc
            refine hc.mono ?_
            rintro e w1 ⟨v', rfl, ho, hb1⟩
            have hl : (((L.getD (M.pos (names L) t) z0).seen.drop p).take n).length ≤ 4194304 := by rw [List.length_take]; omega
            have hs := owns_sees' ho (by omega)
            obtain ⟨a, c, rfl⟩ := hs.slice
            exact ⟨a, c, rfl, hs, hb1⟩
        · exact ⟨[], 2, fun wx hb => nil1 (read_none (h.lw.dk.on hb) h.ri t hn (by simpa using hh) p n hf.1 hf.2), fun wx hb => nil2 (rread_none (h.rd.on hb) h.ri2 t hn (by rw [en]; simpa using hh) p n hf.1 hf.2)⟩
  · exact ⟨[], 1, fun wx hb => nil1 (read_bad D wx t p n hf), fun wx hb => nil2 (rread_form R wx t p n (.inr hf))⟩

theorem list_pair {w0 w : World} {D mb : Nat} {dv : Value} {L : List FR} {T : List (Int × Int)} {s : Int} {off : Bool} {R : Nat} {rv tv : Value} {L2 : List FR} (h : Bo w0 w D mb dv L T s off R rv tv L2) :
    ∃ (l : List ByteArray) (rr : Int), l.length ≤ 16 ∧ (∀ wx, Below w.heap.size w wx → Calls Try.prog 25 #[.pointer (some ⟨D, 0, none⟩)] wx fun e w1 => ∃ a c, e = .returned (.tuple #[.slice a l.length c, .int .i64 rr]) ∧ w1.ownsRow wx.heap.size 9 1 (.slice a l.length c) l.length (l.map Value.string) ∧ Below wx.heap.size wx w1) ∧
      ∀ wx, Below w.heap.size w wx → Calls Try.prog 42 #[.pointer (some ⟨R, 0, none⟩)] wx fun e w1 => ∃ a c, e = .returned (.tuple #[.slice a l.length c, .int .i64 rr]) ∧ w1.ownsRow wx.heap.size 9 1 (.slice a l.length c) l.length (l.map Value.string) ∧ Below wx.heap.size wx w1 := by
  have en : names L2 = names L := by rw [← nmA_fabs, h.eq, nmA_fabs]
  have hl16 := h.lw.dk.2.1.2
  have sl : ∀ {w1 : World} {b : Nat} {v : Value} {l : List ByteArray}, w1.ownsRow b 9 1 v l.length (l.map Value.string) → ∃ a c, v = .slice a l.length c := fun ho => by
    rcases ho.2 with ⟨rfl, h0⟩ | ⟨g, cap, cur, rfl, _⟩
    · exact ⟨none, 0, by rw [h0]⟩
    · exact ⟨_, _, rfl⟩
  cases off with
  | true =>
    refine ⟨[], 9, by simp, fun wx hb => (list_dark (h.lw.dk.on hb)).mono ?_, fun wx hb => (rlist_off (h.rd.on hb)).mono ?_⟩
    · rintro e w1 ⟨rfl, rfl⟩
      exact ⟨none, 0, rfl, World.ownsRow_nil _ _ _ _, Below.refl _ _⟩
    · rintro e w1 ⟨rfl, rfl⟩
      exact ⟨none, 0, rfl, World.ownsRow_nil _ _ _ _, Below.refl _ _⟩
  | false =>
    have hl2 : L2.length = L.length := by simpa using congrArg List.length h.eq
    refine ⟨names L, 0, by rw [names_length]; exact hl16, fun wx hb => (list_lit (h.lw.dk.on hb)).mono ?_, fun wx hb => (rlist_lit (h.rd.on hb)).mono ?_⟩
    · rintro e w1 ⟨v', rfl, ho, hb1⟩
      rw [← names_length] at ho
      obtain ⟨a, c, rfl⟩ := sl ho
      exact ⟨a, c, rfl, ho, hb1⟩
    · rintro e w1 ⟨v', rfl, ho, hb1⟩
      rw [en, hl2, ← names_length] at ho
      obtain ⟨a, c, rfl⟩ := sl ho
      exact ⟨a, c, rfl, ho, hb1⟩

theorem crs_eq {L L2 : List FR} (h : L2.map fabs = L.map fabs) (ps : List Int) : ∀ k, crs L2 ps k = crs L ps k
  | 0 => rfl
  | k + 1 => by
    have e : fabs (L2.getD k z0) = fabs (L.getD k z0) := by
      rw [← fabs_getD, ← fabs_getD, h]
    have e1 : (L2.getD k z0).nm = (L.getD k z0).nm := congrArg (·.1) e
    have e2 : (L2.getD k z0).safe = (L.getD k z0).safe := congrArg (·.2.1) e
    have e3 : (L2.getD k z0).seen = (L.getD k z0).seen := congrArg (·.2.2) e
    rw [crs, crs, crs_eq h ps k, e1, e2, e3]

/-- Write on both: b is a copy of the program's side, which is written over between. -/
theorem write_pair {w0 w : World} {D mb : Nat} {dv : Value} {L : List FR} {T : List (Int × Int)} {s : Int} {off : Bool} {R : Nat} {rv tv : Value} {L2 : List FR} (h : Bo w0 w D mb dv L T s off R rv tv L2) (hs : 0 ≤ s ∧ s ≤ 1000000) (hT : T.all tOk = true) (t : ByteArray) (p : Int) (b : List Nat) (hbl : b.length ≤ 1000000) {ba : Option Addr} {bc : Nat} (hb : Sees w (.slice ba b.length bc) b) (hb0 : ∀ a, ba = some a → 1 ≤ b.length → a.block < w0.heap.size) :
    ∃ (rr : Int) (P : World → Prop), (∀ wx ca cc, Below w.heap.size w wx → Sees wx (.slice ca b.length cc) b → (∀ a, ca = some a → w.heap.size ≤ a.block) → (∀ k, (Value.slice ca b.length cc).ownBlock = some k → w.heap.size ≤ k ∧ k < wx.heap.size) → Calls Try.prog 18 #[.pointer (some ⟨D, 0, none⟩), .string t, .int .i64 p, .slice ca b.length cc] wx fun e w1 => e = .returned (.int .i64 rr) ∧ Fr (foot D mb dv L) wx w1 ∧ ∀ w2, Fr (Value.slice ca b.length cc).ownBlock.toList w1 w2 → P w2) ∧
      ∀ w1, P w1 → KP D mb dv L R rv tv L2 w w1 ∧ Calls Try.prog 46 #[.pointer (some ⟨R, 0, none⟩), .string t, .int .i64 p, .slice ba b.length bc] w1 fun e w2 => e = .returned (.int .i64 rr) ∧ DoP w0 D mb T s R tv w2 ∧ KP D mb dv L R rv tv L2 w w2 := by
  have hlt := h.lw.dk.lt
  have hltR := h.rd.lt
  by_cases hf : M.nam t = true ∧ 1 ≤ b.length ∧ 0 ≤ p ∧ p + b.length ≤ 4194304
  · obtain ⟨hn, h1, h0, h4⟩ := hf
    obtain ⟨p, rfl⟩ : ∃ m : Nat, p = (m : Int) := ⟨p.toNat, by omega⟩
    have hbw : ∀ a, ba = some a → a.block < w0.heap.size := fun a e => hb0 a e h1
    refine ⟨(mSt (L.map fabs) off (first T (s + 1)) (mWrite (L.map fabs) t p b)).1, fun w1 => ∃ dv' L', Moved w D mb dv L (first T) (s + 1) (mSt (L.map fabs) off (first T (s + 1)) (mWrite (L.map fabs) t p b)).2.2 dv' L' w1 ∧ L'.map fabs = (mSt (L.map fabs) off (first T (s + 1)) (mWrite (L.map fabs) t p b)).2.1, fun wx ca cc hbx hsx hcx hgx => ?_, ?_⟩
    · refine (write_ex (h.lw.dk.on hbx) hs (first_few hT _) h.ri t hn p ca cc b hsx (fun a e hm => by have := hcx a e; have := hlt _ hm; omega) h1 (by omega)).mono ?_
      rintro e w1 ⟨rfl, v', L', hM, he⟩
      refine ⟨rfl, hM.2.1, fun w2 hF => ⟨v', L', ?_, he⟩⟩
      have hgn : ∀ k ∈ (Value.slice ca b.length cc).ownBlock.toList, w.heap.size ≤ k ∧ k < wx.heap.size := fun k hk => hgx k (by simpa using hk)
      have hm2 := hM.2.2
      have hM0 := Moved.since (Fr.of_below (fs := foot D mb dv L) hbx) hM
      refine ⟨hF.dk hM.1 (fun k hk hm => ?_), hM0.2.1.trans hF (fun k hk => .inr (hgn k hk).1), hM0.2.2⟩
      have hg := hgn k hm
      rcases hm2 k hk with h2 | h2
      · have := hlt k h2; omega
      · omega
    · rintro w1 ⟨dv', L', hM, he⟩
      have hsb : Sees w1 (.slice ba b.length bc) b := hM.2.1.sees hb (fun a n c e hm => by
        obtain ⟨rfl, _, _⟩ := by simpa using e
        have := hbw a rfl
        have := h.lw.ft _ hm
        omega)
      have hc := rwrite_any (h.half hM) hs hT h.ri2 t hn p ba bc b hsb (fun a e hm => by
        have := hbw a e
        have := h.rb _ (rf_all (L2 := L2) (tv := tv) hm)
        omega) h1 (by omega)
      refine ⟨fun a u hu h1 _ => hM.2.1.cell hu h1, hc.mono ?_⟩
      rintro e w2 ⟨rfl, rv', L2', hM2, he2⟩
      rw [h.eq] at hM2 he2 ⊢
      refine ⟨rfl, h.stroke (q := mWrite (L.map fabs) t p b) (rise_mWrite (by rw [nmA_fabs]; exact h.ri) t p b) hM he (by rw [h.eq]; exact hM2) (by rw [h.eq]; exact he2), fun a u hu h1 h2 => hM2.2.1.cell (hM.2.1.cell hu h1) (fun hm => h2 (rf_all hm))⟩
  · refine ⟨1, fun w1 => Bo w0 w1 D mb dv L T s off R rv tv L2 ∧ KP D mb dv L R rv tv L2 w w1, fun wx ca cc hbx hsx hcx hgx => ?_, ?_⟩
    · refine (write_form D t p ca b.length cc (by omega) hf wx).mono ?_
      rintro e w1 ⟨rfl, hb1⟩
      have hB1 := (h.below hbx).below hb1
      have hgn : ∀ k ∈ (Value.slice ca b.length cc).ownBlock.toList, w.heap.size ≤ k ∧ k < wx.heap.size := fun k hk => hgx k (by simpa using hk)
      refine ⟨rfl, Fr.of_below hb1, fun w2 hF => ⟨hB1.fr hF (fun k hk => ?_) (fun k hk hm => ?_) (fun k hk hm => ?_), fun a u hu _ _ => hF.cell (cell_on hb1 (cell_on hbx hu)) (fun hm => ?_)⟩⟩
      · have := (hgn k hk).1; have := h.lw.b.size; omega
      · have := (hgn k hm).1; have := hlt k hk; omega
      · have := (hgn k hm).1; have := hltR k hk; omega
      · have := (hgn _ hm).1; have := World.block_lt_of_cell? _ _ hu; omega
    · rintro w1 ⟨hB, hK⟩
      refine ⟨hK, (rwrite_form R w1 t p ba b.length bc hbl (by
        cases hn : M.nam t with
        | false => exact .inl rfl
        | true => exact .inr (fun hx => hf ⟨hn, hx⟩))).mono ?_⟩
      rintro e w2 ⟨rfl, rfl⟩
      exact ⟨rfl, hB.done, hK⟩
end Go.Proofs.Ythkjjebghfcgkaa
