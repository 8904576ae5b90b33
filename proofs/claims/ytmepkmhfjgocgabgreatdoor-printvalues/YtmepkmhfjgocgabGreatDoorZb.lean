/-
  The parser's call stands; package words: isKey, isLetter, isDigit, IsName.
-/
import Derived.Test.YtmepkmhfjgocgabGreatDoorZa
import Derived.Test.YtmepkmhfjgocgabGreatDoorLc
namespace Go.Proofs.YtmepkmhfjgocgabGreatDoor
open Go.ChangeShapes Go.WideShapes Go.ChangeAt Go.RowKit Go.Deep

theorem S_toList (L : List UInt8) : (S L).toList = L := by rw [Lib.toList_data, S_data]
theorem S_eqv (L K : List UInt8) : (S L).toList = (S K).toList ↔ L = K := by rw [S_toList, S_toList]

set_option maxRecDepth 100000 in
set_option maxHeartbeats 400000 in
theorem stands_is (t : L.Tok) (X : List UInt8) (w : World) :
    Calls Tryz.prog 70 #[.agg #[.int .i64 t.1, .string (S t.2.1), .int .i64 t.2.2], .string (S X)] w fun e w' => e = .returned (.bool (Z.stands t X)) ∧ w' = w.alloc (.cells #[.int .i64 t.1, .string (S t.2.1), .int .i64 t.2.2] 113) := by
  obtain ⟨k, s, n⟩ := t
  obtain ⟨b, hb⟩ : ∃ b, Z.stands (k, s, n) X = b := ⟨_, rfl⟩
  rw [hb]
  have hb' : (s == X && (k == 1 || k == 5)) = b := hb
  clear hb
  have e1 := S_toList s
  have e2 := S_toList X
  show Calls _ _ #[.agg #[.int .i64 k, .string (S s), .int .i64 n], .string (S X)] w fun e w' => e = .returned (.bool b) ∧ w' = w.alloc (.cells #[.int .i64 k, .string (S s), .int .i64 n] 113)
  generalize S s = sv at e1 ⊢
  generalize S X = xv at e2 ⊢
  go_enter Tryz.func70, Tryz.ntmps70
  go_wp2
  all_goals
    go_ret
    subst hb'
    simp_all

theorem iskey_yes {X : List UInt8} (K : List UInt8) (h : (X == K) = true) (hK : K ∈ Z.keys) : Z.isKey X = true := by
  obtain rfl : X = K := by simpa using h
  unfold Z.isKey
  simpa using hK

theorem iskey_no {X : List UInt8} (h : ¬ X ∈ Z.keys) : Z.isKey X = false := by
  cases hq : Z.isKey X
  · rfl
  · exfalso
    unfold Z.isKey at hq
    rw [List.contains_iff_mem] at hq
    exact h hq

set_option maxRecDepth 100000 in
set_option maxHeartbeats 4000000 in
theorem iskey_is (X : List UInt8) (w : World) :
    Calls Tryz.prog 82 #[.string (S X)] w fun e w' => e = .returned (.bool (Z.isKey X)) ∧ w' = w := by
  have e1 := S_toList X
  obtain ⟨b, hb⟩ : ∃ b, Z.isKey X = b := ⟨_, rfl⟩
  have HB := Hid.mk' hb
  rw [hb]
  clear hb
  generalize S X = xv at e1 ⊢
  go_enter Tryz.func82, Tryz.ntmps82
  go_wp2
  all_goals
    go_ret
    rw [e1] at *
    refine ⟨?_, rfl⟩
    have hb := HB.out
    first
      | contradiction
      | (exfalso; simp_all; done)
      | (rw [iskey_yes _ (by assumption) (by decide)] at hb; exact congrArg _ (congrArg _ hb))
      | (have : Z.isKey X = false := iskey_no (fun hm => by simp only [Z.keys, List.mem_cons, List.not_mem_nil] at hm; simp_all)
         rw [this] at hb; exact congrArg (fun b => Ending.returned (Value.bool b)) hb)
theorem take_byte (s : ByteArray) (j : Nat) (h : j < s.size) : s.data.toList.take (j + 1) = s.data.toList.take j ++ [s[j]] := by
  rw [List.take_succ_eq_append_getElem (by simpa using h)]
  rfl

set_option maxRecDepth 100000 in
set_option maxHeartbeats 400000 in
theorem isletter_is (c : UInt8) (w : World) :
    Calls Tryz.prog 83 #[.int .u8 (c.toNat : Int)] w fun e w' => e = .returned (.bool (Z.isLet c)) ∧ w' = w := by
  have e : Z.isLet c = ((c.toNat : Int) == 95 || (decide ((97 : Int) ≤ (c.toNat : Int)) && decide ((c.toNat : Int) ≤ 122))) := L.all_u8 (p := fun c => Z.isLet c = ((c.toNat : Int) == 95 || (decide ((97 : Int) ≤ (c.toNat : Int)) && decide ((c.toNat : Int) ≤ 122)))) (by decide +kernel) c
  rw [e]
  clear e
  generalize (c.toNat : Int) = m
  go_enter Tryz.func83, Tryz.ntmps83
  go_wp2
  all_goals
    go_ret
    simp_all <;> omega

set_option maxRecDepth 100000 in
set_option maxHeartbeats 400000 in
theorem isdigit_is (c : UInt8) (w : World) :
    Calls Tryz.prog 81 #[.int .u8 (c.toNat : Int)] w fun e w' => e = .returned (.bool (Z.isDig c)) ∧ w' = w := by
  have e : Z.isDig c = (decide ((48 : Int) ≤ (c.toNat : Int)) && decide ((c.toNat : Int) ≤ 57)) := L.all_u8 (p := fun c => Z.isDig c = (decide ((48 : Int) ≤ (c.toNat : Int)) && decide ((c.toNat : Int) ≤ 57))) (by decide +kernel) c
  rw [e]
  clear e
  generalize (c.toNat : Int) = m
  go_enter Tryz.func81, Tryz.ntmps81
  go_wp2
  all_goals
    go_ret
    simp_all <;> omega

set_option maxRecDepth 100000 in
set_option maxHeartbeats 1000000 in
theorem isname_is (X : List UInt8) (w : World) :
    Calls Tryz.prog 31 #[.string (S X)] w fun e w' => e = .returned (.bool (Z.isName X)) ∧ w' = w := by
  cases X with
  | nil =>
    have e1 : (S []).toList.isEmpty = true := by rw [isEmpty_S]; rfl
    obtain ⟨s, hs⟩ : ∃ s, S [] = s := ⟨_, rfl⟩
    rw [hs] at e1 ⊢
    go_enter Tryz.func31, Tryz.ntmps31
    go_wp2
    go_ret
    exact ⟨rfl, rfl⟩
  | cons c l =>
    have HK := fun w => iskey_is (c :: l) w
    have HG := fun w => isdigit_is c w
    have hD : (S (c :: l)).data.toList = c :: l := S_data _
    obtain ⟨s, hs, h0, e1, e2, e3, e4⟩ := S_cons c l
    rw [hs] at HK hD ⊢
    obtain ⟨b, hb⟩ : ∃ b, Z.isName (c :: l) = b := ⟨_, rfl⟩
    rw [hb]
    have HB := Hid.mk' hb
    have HD := Hid.mk' hD
    have HE := Hid.mk' e4
    clear hs e3 hb hD e4
    by_cases hl : 32 < s.size
    · have t1 : decide ((32 : Int) < (s.size : Int)) = true := decide_eq_true (by omega)
      go_enter Tryz.func31, Tryz.ntmps31
      go_wp2
      go_ret
      refine ⟨?_, rfl⟩
      rw [← HB.out]
      have := HE.out
      simp [Z.isName]
      omega
    · have t1 : decide ((32 : Int) < (s.size : Int)) = false := decide_eq_false (by omega)
      have hl2 : l.length < 32 := by have := HE.out; omega
      cases hd : Z.isDig c with
      | true =>
        rw [hd] at HG
        go_enter Tryz.func31, Tryz.ntmps31
        go_wp2_with fail
        refine (HG _).mono ?_
        rintro e w1 ⟨rfl, hw1⟩
        obtain rfl := hw1.symm
        go_wp2
        go_ret
        refine ⟨?_, rfl⟩
        rw [← HB.out]
        simp [Z.isName, hd]
      | false =>
        rw [hd] at HG
        cases hk : Z.isKey (c :: l) with
        | true =>
          rw [hk] at HK
          go_enter Tryz.func31, Tryz.ntmps31
          go_wp2_with fail
          refine (HG _).mono ?_
          rintro e w1 ⟨rfl, hw1⟩
          obtain rfl := hw1.symm
          go_wp2_with fail
          refine (HK _).mono ?_
          rintro e w1 ⟨rfl, hw1⟩
          obtain rfl := hw1.symm
          go_wp2
          go_ret
          refine ⟨?_, rfl⟩
          rw [← HB.out]
          simp [Z.isName, hk]
        | false =>
          rw [hk] at HK
          have HA : Hid ((s.data.toList.all Z.okB) = b) := by
            refine Hid.mk' ?_
            rw [HD.out, ← HB.out]
            simp [Z.isName, hk, hd, hl2]
          clear hl2 hd hk HB HE
          go_enter Tryz.func31, Tryz.ntmps31
          go_wp2_with fail
          refine (HG _).mono ?_
          rintro e w1 ⟨rfl, hw1⟩
          obtain rfl := hw1.symm
          go_wp2_with fail
          refine (HK _).mono ?_
          rintro e w1 ⟨rfl, hw1⟩
          obtain rfl := hw1.symm
          go_wp2
          clear HG HK e2 e1
          go_loopw [22] (fun i wr => ∃ j : Nat, j ≤ s.size ∧ i = .int .i64 j ∧ wr = w ∧ (s.data.toList.take j).all Z.okB = true) (fun i _ => s.size - (intOf i).toNat)
          case atStart => exact ⟨0, by omega, rfl, rfl, rfl⟩
          case round =>
            obtain ⟨j, hj, rfl, rfl, ha⟩ := hrel
            by_cases hjl : j < s.size
            · have HT := take_byte s j hjl
              have HM : s[j] ∈ s.data.toList := by
                have : s[j] = s.data.toList[j]'(by simpa using hjl) := rfl
                rw [this]
                exact List.getElem_mem _
              obtain ⟨d, hcb⟩ : ∃ d, s[j] = d := ⟨_, rfl⟩
              rw [hcb] at HT HM
              have HS : Hid ((s.data.toList.take (j + 1)).all Z.okB = Z.okB d) := by
                refine Hid.mk' ?_
                rw [HT, List.all_append, ha]
                simp
              have HM2 := Hid.mk' HM
              have t4 : decide ((j : Int) < (s.size : Int)) = true := decide_eq_true (by omega)
              have HL := fun w => isletter_is d w
              have HG := fun w => isdigit_is d w
              clear HT HM ha
              cases h1 : Z.isLet d with
              | true =>
                rw [h1] at HL
                go_wp2_with fail
                refine (HL _).mono ?_
                rintro e w1 ⟨rfl, hw1⟩
                obtain rfl := hw1.symm
                go_wp2
                go_roundw
                case rel => exact ⟨j + 1, by omega, by go_num, trivial, by rw [HS.out]; simp [Z.okB, h1]⟩
                case measure => simp [intOf]; omega
              | false =>
                rw [h1] at HL
                cases h2 : Z.isDig d with
                | true =>
                  rw [h2] at HG
                  go_wp2_with fail
                  refine (HL _).mono ?_
                  rintro e w1 ⟨rfl, hw1⟩
                  obtain rfl := hw1.symm
                  go_wp2_with fail
                  refine (HG _).mono ?_
                  rintro e w1 ⟨rfl, hw1⟩
                  obtain rfl := hw1.symm
                  go_wp2
                  go_roundw
                  case rel => exact ⟨j + 1, by omega, by go_num, trivial, by rw [HS.out]; simp [Z.okB, h2]⟩
                  case measure => simp [intOf]; omega
                | false =>
                  rw [h2] at HG
                  go_wp2_with fail
                  refine (HL _).mono ?_
                  rintro e w1 ⟨rfl, hw1⟩
                  obtain rfl := hw1.symm
                  go_wp2_with fail
                  refine (HG _).mono ?_
                  rintro e w1 ⟨rfl, hw1⟩
                  obtain rfl := hw1.symm
                  go_wp2
                  go_ret
                  refine ⟨?_, rfl⟩
                  rw [← HA.out]
                  cases hq : s.data.toList.all Z.okB
                  · rfl
                  · have := List.all_eq_true.1 hq d HM2.out
                    simp [Z.okB, h1, h2] at this
            · obtain rfl : j = s.size := by omega
              have hfull : s.data.toList.take s.size = s.data.toList := List.take_of_length_le (by simp)
              rw [hfull] at ha
              rw [HA.out] at ha
              subst ha
              have t4 : decide ((s.size : Int) < (s.size : Int)) = false := decide_eq_false (by omega)
              clear hfull
              go_wp2
              go_ret
              exact ⟨rfl, rfl⟩
end Go.Proofs.YtmepkmhfjgocgabGreatDoor
