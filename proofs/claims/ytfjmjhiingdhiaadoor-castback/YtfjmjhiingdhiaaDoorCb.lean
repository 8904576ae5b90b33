/-
  Plain mathematics of CastBack: an integer's text is read as the integer; what is stored fits and stays.
-/
import Derived.Test.YtfjmjhiingdhiaaDoorCt
import Derived.Test.YtfjmjhiingdhiaaDoorCs
namespace Go.Proofs.YtfjmjhiingdhiaaDoor.M

/-- The text of what is not below 0: digits alone, and their number. -/
theorem dig_reads (m : Nat) : ∀ n : Int, 0 ≤ n → n.toNat = m →
    0 < (dig n).size ∧ Dg (byt (dig n)) (dig n).size ∧ nv (byt (dig n)) (dig n).size = -n := by
  induction m using Nat.strongRecOn with
  | _ m ih =>
    intro n h0 hm
    by_cases h : n < 10
    · rw [dig_one h0 h]
      have e : (ByteArray.mk #[UInt8.ofNat (48 + n.toNat)]).size = 1 := rfl
      have b : byt ⟨#[UInt8.ofNat (48 + n.toNat)]⟩ 0 = 48 + n.toNat := by
        show (UInt8.ofNat (48 + n.toNat)).toNat = 48 + n.toNat
        rw [UInt8.toNat_ofNat']
        omega
      rw [e]
      refine ⟨by omega, fun i hi => ?_, ?_⟩
      · obtain rfl : i = 0 := by omega
        rw [b]
        omega
      · show (0 : Int) * 10 - ((byt ⟨#[UInt8.ofNat (48 + n.toNat)]⟩ 0 : Int) - 48) = -n
        rw [b]
        omega
    · obtain ⟨q0, q1, q2⟩ := ih (n / 10).toNat (by omega) (n / 10) (by omega) rfl
      have hr0 : 0 ≤ n % 10 := by omega
      have hr1 : n % 10 < 10 := by omega
      have er := dig_one hr0 hr1
      have b : byt (dig (n % 10)) 0 = 48 + (n % 10).toNat := by
        rw [er]
        show (UInt8.ofNat (48 + (n % 10).toNat)).toNat = 48 + (n % 10).toNat
        rw [UInt8.toNat_ofNat']
        omega
      have e1 : (dig (n % 10)).size = 1 := by rw [er]; rfl
      rw [dig_step (n := n) (by omega)]
      generalize dig (n / 10) = x at *
      generalize dig (n % 10) = y at *
      have sz : (x ++ y).size = x.size + 1 := by rw [ByteArray.size_append, e1]
      have f1 : ∀ i, i < x.size → byt (x ++ y) i = byt x i := fun i hi => by rw [byt_append, if_pos hi]
      have f2 : byt (x ++ y) x.size = 48 + (n % 10).toNat := by rw [byt_append, if_neg (by omega), Nat.sub_self, b]
      rw [sz]
      refine ⟨by omega, ((Dg_congr f1).2 q1).next (by rw [f2]; omega), ?_⟩
      show nv (byt (x ++ y)) x.size * 10 - ((byt (x ++ y) x.size : Int) - 48) = -n
      rw [nv_congr f1, q2, f2]
      omega

theorem cint_dig {n : Int} (hn : R n) : cint (dig n) = (n, 0) := by
  by_cases h : 0 ≤ n
  · obtain ⟨q0, q1, q2⟩ := dig_reads n.toNat n h rfl
    have d0 := q1 0 q0
    rw [cint_bare q0 (by omega) (by omega), if_pos q1, q2, Int.neg_neg, if_pos hn]
  · obtain ⟨q0, q1, q2⟩ := dig_reads (-n).toNat (-n) (by omega) rfl
    obtain ⟨b0, b1⟩ := byt_one 45 (dig (-n))
    have z : (ByteArray.mk #[45]).size = 1 := rfl
    have sz : (⟨#[45]⟩ ++ dig (-n) : ByteArray).size = 1 + (dig (-n)).size := by rw [ByteArray.size_append, z]
    rw [dig_neg (by omega), cint_signed (t := ⟨#[45]⟩ ++ dig (-n)) (by omega) (Or.inl b0) (s := dig (-n)) (by omega) b1, if_pos q1]
    have e : decide (byt (⟨#[45]⟩ ++ dig (-n)) 0 = 45) = true := by rw [b0]; rfl
    rw [e, sv_true, q2, Int.neg_neg, if_pos hn]

/-- What fits is stored as it is. -/
theorem store_fit {k n : Int} {s : ByteArray} {t : Int} (ho : Ok k n s) (ht : 1 ≤ t ∧ t ≤ 4) (hf : Fit k t) : cstore k n s t = (k, n, s, 0) := by
  rw [cstore, if_pos ⟨ho, ht⟩, rstore, if_pos hf]

theorem ok_str {k n : Int} {s : ByteArray} (ho : Ok k n s) (hk : k = 2) : s.size ≤ 4096 := by
  rcases ho with ⟨h, _⟩ | ⟨h, _⟩ | ⟨_, _, h⟩
  · omega
  · omega
  · exact h

/-- What is stored: it may be, it fits, it stays; and what fitted is itself. -/
theorem store_back (k n : Int) (s : ByteArray) (t : Int) (hn : R n) :
    (∃ a b c e, cstore k n s t = (a, b, c, e) ∧ (e == 0) = false) ∨
    (∃ a b c, cstore k n s t = (a, b, c, 0) ∧ Ok k n s ∧ (1 ≤ t ∧ t ≤ 4) ∧ Ok a b c ∧ Fit a t ∧ R b ∧ cstore a b c t = (a, b, c, 0) ∧ ¬ Fit k t) ∨
    (cstore k n s t = (k, n, s, 0) ∧ Ok k n s ∧ (1 ≤ t ∧ t ≤ 4) ∧ Fit k t) := by
  by_cases h : Ok k n s ∧ 1 ≤ t ∧ t ≤ 4
  · obtain ⟨ho, ht⟩ := h
    by_cases hf : Fit k t
    · exact Or.inr (Or.inr ⟨store_fit ho ht hf, ho, ht, hf⟩)
    · have e : cstore k n s t = rstore k n s t := by rw [cstore, if_pos ⟨ho, ht⟩]
      rw [e, rstore, if_neg hf]
      by_cases h2 : t = 2 ∧ k = 2
      · rw [if_pos h2]
        by_cases g : (cint s).2 = 0
        · rw [if_pos g]
          have o : Ok 1 (cint s).1 ⟨#[]⟩ := Or.inr (Or.inl ⟨rfl, rfl⟩)
          have f : Fit 1 t := Or.inr (Or.inr (Or.inl ⟨h2.1, rfl⟩))
          exact Or.inr (Or.inl ⟨_, _, _, rfl, ho, ht, o, f, cint_R, store_fit o ht f, hf⟩)
        · rw [if_neg g]
          exact Or.inl ⟨_, _, _, _, rfl, by simp [g]⟩
      · rw [if_neg h2]
        by_cases h3 : t = 3 ∧ k = 1
        · rw [if_pos h3]
          have sz := dig_size hn
          have o : Ok 2 0 (dig n) := Or.inr (Or.inr ⟨Or.inl rfl, rfl, by omega⟩)
          have f : Fit 2 t := Or.inr (Or.inr (Or.inr (Or.inl ⟨h3.1, rfl⟩)))
          exact Or.inr (Or.inl ⟨_, _, _, rfl, ho, ht, o, f, (by decide : R 0), store_fit o ht f, hf⟩)
        · rw [if_neg h3]
          by_cases h4 : t = 4 ∧ k = 2
          · rw [if_pos h4]
            have o : Ok 3 0 s := Or.inr (Or.inr ⟨Or.inr rfl, rfl, ok_str ho h4.2⟩)
            have f : Fit 3 t := Or.inr (Or.inr (Or.inr (Or.inr ⟨h4.1, rfl⟩)))
            exact Or.inr (Or.inl ⟨_, _, _, rfl, ho, ht, o, f, (by decide : R 0), store_fit o ht f, hf⟩)
          · rw [if_neg h4]
            exact Or.inl ⟨_, _, _, _, rfl, rfl⟩
  · refine Or.inl ⟨0, 0, ⟨#[]⟩, 1, ?_, rfl⟩
    rw [cstore, if_neg h]

/-- An integer's text, stored by TypeInt. -/
theorem store_dig {n : Int} (hn : R n) : cstore 2 0 (dig n) 2 = (1, n, ⟨#[]⟩, 0) := by
  have sz := dig_size hn
  have o : Ok 2 0 (dig n) := Or.inr (Or.inr ⟨Or.inl rfl, rfl, by omega⟩)
  rw [cstore, if_pos ⟨o, by omega, by omega⟩, rstore, if_neg (by unfold Fit; omega), if_pos ⟨rfl, rfl⟩, cint_dig hn, if_pos rfl]
end Go.Proofs.YtfjmjhiingdhiaaDoor.M
