/-
  ParseWords' plain side: what Z.parse tells of the law's texts.
  ParseLevels' plain side: what Z.parse tells of the law's texts.
  Within; the operations of ParseLevels at whatever places they are taken from.
-/
import Derived.Test.YtmepkmhfjgocgaaGreatDoorYi
namespace Go.Proofs.YtmepkmhfjgocgaaGreatDoor
open Go.ChangeShapes Go.WideShapes Go.ChangeAt Go.RowKit Go.Deep

def Z.wordKeys : List (List UInt8) := [[97,110,121], [97,110,100], [98,101,103,105,110], [98,108,111,98], [98,121], [99,111,109,109,105,116], [99,111,117,110,116], [99,114,101,97,116,101], [100,101,108,101,116,101], [100,101,115,99], [100,114,111,112], [102,114,111,109], [105,110,100,101,120], [105,110,115,101,114,116], [105,110,116,101,103,101,114], [105,110,116,111], [105,115], [108,101,110,103,116,104], [109,97,120], [109,105,110], [110,111,116], [110,117,108,108], [111,110], [111,114], [111,114,100,101,114], [114,111,108,108,98,97,99,107], [114,116,114,101,101], [115,101,108,101,99,116], [115,101,116], [115,117,109], [116,97,98,108,101], [116,101,120,116], [116,121,112,101,111,102], [117,110,105,113,117,101], [117,112,100,97,116,101], [117,115,105,110,103], [118,97,108,117,101,115], [118,105,114,116,117,97,108], [119,104,101,114,101]]
/-- "drop table " -/
def Z.dropT : List UInt8 := [100,114,111,112,32,116,97,98,108,101,32]
/-- "create table t (a, " -/
def Z.makeT : List UInt8 := [99,114,101,97,116,101,32,116,97,98,108,101,32,116,32,40,97,44,32]
def Z.wordsOk (k : List UInt8) : Bool := decide ((Z.parse (Z.dropT ++ k)).2 = 1) && (decide ((Z.parse (Z.makeT ++ k ++ [41])).2 = 1) && (decide ((Z.parse (Z.dropT ++ (k ++ [115]))).2 = 0) && decide ((Z.parse (Z.dropT ++ (k ++ [115]))).1.name = k ++ [115])))
theorem Z.words0 : Z.wordKeys.all Z.wordsOk = true := by kernel_rfl
theorem Z.words1 : (Z.parse [83,69,76,69,67,84,32,65,44,32,99,111,117,110,116,32,70,82,79,77,32,116]).2 = 1 := by kernel_rfl
theorem Z.words2 : (Z.parse [83,69,76,69,67,84,32,65,44,32,99,111,117,110,116,32,70,82,79,77,32,116]).1.out.length = 0 := by kernel_rfl
theorem Z.words3 : (Z.parse [67,82,69,65,84,69,32,85,78,73,81,85,69,32,73,78,68,69,88,32,73,32,79,78,32,84,32,40,65,41]).2 = 0 := by kernel_rfl
theorem Z.words4 : Z.parse [67,82,69,65,84,69,32,85,78,73,81,85,69,32,73,78,68,69,88,32,73,32,79,78,32,84,32,40,65,41] = Z.parse [99,114,101,97,116,101,32,117,110,105,113,117,101,32,105,110,100,101,120,32,105,32,111,110,32,116,32,40,97,41] := by kernel_rfl

def Z.opLevels : List (List (List UInt8)) := [[[32,111,114,32]], [[32,97,110,100,32]], [[32,61,32], [32,60,62,32], [32,60,32], [32,60,61,32], [32,62,32], [32,62,61,32]], [[32,43,32], [32,45,32]], [[32,42,32], [32,47,32], [32,37,32]], [[32,124,124,32]]]
/-- "select x" a "y" b "w from t" -/
def Z.lvPlain (a b : List UInt8) : List UInt8 := [115,101,108,101,99,116,32,120] ++ a ++ [121] ++ b ++ [119,32,102,114,111,109,32,116]
/-- "select (x" a "y)" b "w from t" -/
def Z.lvLeft (a b : List UInt8) : List UInt8 := [115,101,108,101,99,116,32,40,120] ++ a ++ [121,41] ++ b ++ [119,32,102,114,111,109,32,116]
/-- "select x" a "(y" b "w) from t" -/
def Z.lvRight (a b : List UInt8) : List UInt8 := [115,101,108,101,99,116,32,120] ++ a ++ [40,121] ++ b ++ [119,41,32,102,114,111,109,32,116]
def Z.lvWith (i k : Nat) (a b : List UInt8) : List UInt8 := if i < k then Z.lvRight a b else Z.lvLeft a b
/-- All choices at levels i and k. -/
def Z.lvPairs (i k : Nat) : List (List UInt8 × List UInt8) := (Z.opLevels.getD i []).flatMap fun a => (Z.opLevels.getD k []).map fun b => (a, b)
theorem Z.lv_00 : (Z.lvPairs 0 0).map (fun p => Z.parse (Z.lvPlain p.1 p.2)) = (Z.lvPairs 0 0).map (fun p => Z.parse (Z.lvWith 0 0 p.1 p.2)) := by kernel_rfl
theorem Z.le_00 : ((Z.lvPairs 0 0).all fun p => decide ((Z.parse (Z.lvPlain p.1 p.2)).2 = 0)) = true := by kernel_rfl
theorem Z.lv_01 : (Z.lvPairs 0 1).map (fun p => Z.parse (Z.lvPlain p.1 p.2)) = (Z.lvPairs 0 1).map (fun p => Z.parse (Z.lvWith 0 1 p.1 p.2)) := by kernel_rfl
theorem Z.le_01 : ((Z.lvPairs 0 1).all fun p => decide ((Z.parse (Z.lvPlain p.1 p.2)).2 = 0)) = true := by kernel_rfl
theorem Z.lv_02 : (Z.lvPairs 0 2).map (fun p => Z.parse (Z.lvPlain p.1 p.2)) = (Z.lvPairs 0 2).map (fun p => Z.parse (Z.lvWith 0 2 p.1 p.2)) := by kernel_rfl
theorem Z.le_02 : ((Z.lvPairs 0 2).all fun p => decide ((Z.parse (Z.lvPlain p.1 p.2)).2 = 0)) = true := by kernel_rfl
theorem Z.lv_03 : (Z.lvPairs 0 3).map (fun p => Z.parse (Z.lvPlain p.1 p.2)) = (Z.lvPairs 0 3).map (fun p => Z.parse (Z.lvWith 0 3 p.1 p.2)) := by kernel_rfl
theorem Z.le_03 : ((Z.lvPairs 0 3).all fun p => decide ((Z.parse (Z.lvPlain p.1 p.2)).2 = 0)) = true := by kernel_rfl
theorem Z.lv_04 : (Z.lvPairs 0 4).map (fun p => Z.parse (Z.lvPlain p.1 p.2)) = (Z.lvPairs 0 4).map (fun p => Z.parse (Z.lvWith 0 4 p.1 p.2)) := by kernel_rfl
theorem Z.le_04 : ((Z.lvPairs 0 4).all fun p => decide ((Z.parse (Z.lvPlain p.1 p.2)).2 = 0)) = true := by kernel_rfl
theorem Z.lv_05 : (Z.lvPairs 0 5).map (fun p => Z.parse (Z.lvPlain p.1 p.2)) = (Z.lvPairs 0 5).map (fun p => Z.parse (Z.lvWith 0 5 p.1 p.2)) := by kernel_rfl
theorem Z.le_05 : ((Z.lvPairs 0 5).all fun p => decide ((Z.parse (Z.lvPlain p.1 p.2)).2 = 0)) = true := by kernel_rfl
theorem Z.lv_10 : (Z.lvPairs 1 0).map (fun p => Z.parse (Z.lvPlain p.1 p.2)) = (Z.lvPairs 1 0).map (fun p => Z.parse (Z.lvWith 1 0 p.1 p.2)) := by kernel_rfl
theorem Z.le_10 : ((Z.lvPairs 1 0).all fun p => decide ((Z.parse (Z.lvPlain p.1 p.2)).2 = 0)) = true := by kernel_rfl
theorem Z.lv_11 : (Z.lvPairs 1 1).map (fun p => Z.parse (Z.lvPlain p.1 p.2)) = (Z.lvPairs 1 1).map (fun p => Z.parse (Z.lvWith 1 1 p.1 p.2)) := by kernel_rfl
theorem Z.le_11 : ((Z.lvPairs 1 1).all fun p => decide ((Z.parse (Z.lvPlain p.1 p.2)).2 = 0)) = true := by kernel_rfl
theorem Z.lv_12 : (Z.lvPairs 1 2).map (fun p => Z.parse (Z.lvPlain p.1 p.2)) = (Z.lvPairs 1 2).map (fun p => Z.parse (Z.lvWith 1 2 p.1 p.2)) := by kernel_rfl
theorem Z.le_12 : ((Z.lvPairs 1 2).all fun p => decide ((Z.parse (Z.lvPlain p.1 p.2)).2 = 0)) = true := by kernel_rfl
theorem Z.lv_13 : (Z.lvPairs 1 3).map (fun p => Z.parse (Z.lvPlain p.1 p.2)) = (Z.lvPairs 1 3).map (fun p => Z.parse (Z.lvWith 1 3 p.1 p.2)) := by kernel_rfl
theorem Z.le_13 : ((Z.lvPairs 1 3).all fun p => decide ((Z.parse (Z.lvPlain p.1 p.2)).2 = 0)) = true := by kernel_rfl
theorem Z.lv_14 : (Z.lvPairs 1 4).map (fun p => Z.parse (Z.lvPlain p.1 p.2)) = (Z.lvPairs 1 4).map (fun p => Z.parse (Z.lvWith 1 4 p.1 p.2)) := by kernel_rfl
theorem Z.le_14 : ((Z.lvPairs 1 4).all fun p => decide ((Z.parse (Z.lvPlain p.1 p.2)).2 = 0)) = true := by kernel_rfl
theorem Z.lv_15 : (Z.lvPairs 1 5).map (fun p => Z.parse (Z.lvPlain p.1 p.2)) = (Z.lvPairs 1 5).map (fun p => Z.parse (Z.lvWith 1 5 p.1 p.2)) := by kernel_rfl
theorem Z.le_15 : ((Z.lvPairs 1 5).all fun p => decide ((Z.parse (Z.lvPlain p.1 p.2)).2 = 0)) = true := by kernel_rfl
theorem Z.lv_20 : (Z.lvPairs 2 0).map (fun p => Z.parse (Z.lvPlain p.1 p.2)) = (Z.lvPairs 2 0).map (fun p => Z.parse (Z.lvWith 2 0 p.1 p.2)) := by kernel_rfl
theorem Z.le_20 : ((Z.lvPairs 2 0).all fun p => decide ((Z.parse (Z.lvPlain p.1 p.2)).2 = 0)) = true := by kernel_rfl
theorem Z.lv_21 : (Z.lvPairs 2 1).map (fun p => Z.parse (Z.lvPlain p.1 p.2)) = (Z.lvPairs 2 1).map (fun p => Z.parse (Z.lvWith 2 1 p.1 p.2)) := by kernel_rfl
theorem Z.le_21 : ((Z.lvPairs 2 1).all fun p => decide ((Z.parse (Z.lvPlain p.1 p.2)).2 = 0)) = true := by kernel_rfl
theorem Z.lv_22 : (Z.lvPairs 2 2).map (fun p => Z.parse (Z.lvPlain p.1 p.2)) = (Z.lvPairs 2 2).map (fun p => Z.parse (Z.lvWith 2 2 p.1 p.2)) := by kernel_rfl
theorem Z.le_22 : ((Z.lvPairs 2 2).all fun p => decide ((Z.parse (Z.lvPlain p.1 p.2)).2 = 0)) = true := by kernel_rfl
theorem Z.lv_23 : (Z.lvPairs 2 3).map (fun p => Z.parse (Z.lvPlain p.1 p.2)) = (Z.lvPairs 2 3).map (fun p => Z.parse (Z.lvWith 2 3 p.1 p.2)) := by kernel_rfl
theorem Z.le_23 : ((Z.lvPairs 2 3).all fun p => decide ((Z.parse (Z.lvPlain p.1 p.2)).2 = 0)) = true := by kernel_rfl
theorem Z.lv_24 : (Z.lvPairs 2 4).map (fun p => Z.parse (Z.lvPlain p.1 p.2)) = (Z.lvPairs 2 4).map (fun p => Z.parse (Z.lvWith 2 4 p.1 p.2)) := by kernel_rfl
theorem Z.le_24 : ((Z.lvPairs 2 4).all fun p => decide ((Z.parse (Z.lvPlain p.1 p.2)).2 = 0)) = true := by kernel_rfl
theorem Z.lv_25 : (Z.lvPairs 2 5).map (fun p => Z.parse (Z.lvPlain p.1 p.2)) = (Z.lvPairs 2 5).map (fun p => Z.parse (Z.lvWith 2 5 p.1 p.2)) := by kernel_rfl
theorem Z.le_25 : ((Z.lvPairs 2 5).all fun p => decide ((Z.parse (Z.lvPlain p.1 p.2)).2 = 0)) = true := by kernel_rfl
theorem Z.lv_30 : (Z.lvPairs 3 0).map (fun p => Z.parse (Z.lvPlain p.1 p.2)) = (Z.lvPairs 3 0).map (fun p => Z.parse (Z.lvWith 3 0 p.1 p.2)) := by kernel_rfl
theorem Z.le_30 : ((Z.lvPairs 3 0).all fun p => decide ((Z.parse (Z.lvPlain p.1 p.2)).2 = 0)) = true := by kernel_rfl
theorem Z.lv_31 : (Z.lvPairs 3 1).map (fun p => Z.parse (Z.lvPlain p.1 p.2)) = (Z.lvPairs 3 1).map (fun p => Z.parse (Z.lvWith 3 1 p.1 p.2)) := by kernel_rfl
theorem Z.le_31 : ((Z.lvPairs 3 1).all fun p => decide ((Z.parse (Z.lvPlain p.1 p.2)).2 = 0)) = true := by kernel_rfl
theorem Z.lv_32 : (Z.lvPairs 3 2).map (fun p => Z.parse (Z.lvPlain p.1 p.2)) = (Z.lvPairs 3 2).map (fun p => Z.parse (Z.lvWith 3 2 p.1 p.2)) := by kernel_rfl
theorem Z.le_32 : ((Z.lvPairs 3 2).all fun p => decide ((Z.parse (Z.lvPlain p.1 p.2)).2 = 0)) = true := by kernel_rfl
theorem Z.lv_33 : (Z.lvPairs 3 3).map (fun p => Z.parse (Z.lvPlain p.1 p.2)) = (Z.lvPairs 3 3).map (fun p => Z.parse (Z.lvWith 3 3 p.1 p.2)) := by kernel_rfl
theorem Z.le_33 : ((Z.lvPairs 3 3).all fun p => decide ((Z.parse (Z.lvPlain p.1 p.2)).2 = 0)) = true := by kernel_rfl
theorem Z.lv_34 : (Z.lvPairs 3 4).map (fun p => Z.parse (Z.lvPlain p.1 p.2)) = (Z.lvPairs 3 4).map (fun p => Z.parse (Z.lvWith 3 4 p.1 p.2)) := by kernel_rfl
theorem Z.le_34 : ((Z.lvPairs 3 4).all fun p => decide ((Z.parse (Z.lvPlain p.1 p.2)).2 = 0)) = true := by kernel_rfl
theorem Z.lv_35 : (Z.lvPairs 3 5).map (fun p => Z.parse (Z.lvPlain p.1 p.2)) = (Z.lvPairs 3 5).map (fun p => Z.parse (Z.lvWith 3 5 p.1 p.2)) := by kernel_rfl
theorem Z.le_35 : ((Z.lvPairs 3 5).all fun p => decide ((Z.parse (Z.lvPlain p.1 p.2)).2 = 0)) = true := by kernel_rfl
theorem Z.lv_40 : (Z.lvPairs 4 0).map (fun p => Z.parse (Z.lvPlain p.1 p.2)) = (Z.lvPairs 4 0).map (fun p => Z.parse (Z.lvWith 4 0 p.1 p.2)) := by kernel_rfl
theorem Z.le_40 : ((Z.lvPairs 4 0).all fun p => decide ((Z.parse (Z.lvPlain p.1 p.2)).2 = 0)) = true := by kernel_rfl
theorem Z.lv_41 : (Z.lvPairs 4 1).map (fun p => Z.parse (Z.lvPlain p.1 p.2)) = (Z.lvPairs 4 1).map (fun p => Z.parse (Z.lvWith 4 1 p.1 p.2)) := by kernel_rfl
theorem Z.le_41 : ((Z.lvPairs 4 1).all fun p => decide ((Z.parse (Z.lvPlain p.1 p.2)).2 = 0)) = true := by kernel_rfl
theorem Z.lv_42 : (Z.lvPairs 4 2).map (fun p => Z.parse (Z.lvPlain p.1 p.2)) = (Z.lvPairs 4 2).map (fun p => Z.parse (Z.lvWith 4 2 p.1 p.2)) := by kernel_rfl
theorem Z.le_42 : ((Z.lvPairs 4 2).all fun p => decide ((Z.parse (Z.lvPlain p.1 p.2)).2 = 0)) = true := by kernel_rfl
theorem Z.lv_43 : (Z.lvPairs 4 3).map (fun p => Z.parse (Z.lvPlain p.1 p.2)) = (Z.lvPairs 4 3).map (fun p => Z.parse (Z.lvWith 4 3 p.1 p.2)) := by kernel_rfl
theorem Z.le_43 : ((Z.lvPairs 4 3).all fun p => decide ((Z.parse (Z.lvPlain p.1 p.2)).2 = 0)) = true := by kernel_rfl
theorem Z.lv_44 : (Z.lvPairs 4 4).map (fun p => Z.parse (Z.lvPlain p.1 p.2)) = (Z.lvPairs 4 4).map (fun p => Z.parse (Z.lvWith 4 4 p.1 p.2)) := by kernel_rfl
theorem Z.le_44 : ((Z.lvPairs 4 4).all fun p => decide ((Z.parse (Z.lvPlain p.1 p.2)).2 = 0)) = true := by kernel_rfl
theorem Z.lv_45 : (Z.lvPairs 4 5).map (fun p => Z.parse (Z.lvPlain p.1 p.2)) = (Z.lvPairs 4 5).map (fun p => Z.parse (Z.lvWith 4 5 p.1 p.2)) := by kernel_rfl
theorem Z.le_45 : ((Z.lvPairs 4 5).all fun p => decide ((Z.parse (Z.lvPlain p.1 p.2)).2 = 0)) = true := by kernel_rfl
theorem Z.lv_50 : (Z.lvPairs 5 0).map (fun p => Z.parse (Z.lvPlain p.1 p.2)) = (Z.lvPairs 5 0).map (fun p => Z.parse (Z.lvWith 5 0 p.1 p.2)) := by kernel_rfl
theorem Z.le_50 : ((Z.lvPairs 5 0).all fun p => decide ((Z.parse (Z.lvPlain p.1 p.2)).2 = 0)) = true := by kernel_rfl
theorem Z.lv_51 : (Z.lvPairs 5 1).map (fun p => Z.parse (Z.lvPlain p.1 p.2)) = (Z.lvPairs 5 1).map (fun p => Z.parse (Z.lvWith 5 1 p.1 p.2)) := by kernel_rfl
theorem Z.le_51 : ((Z.lvPairs 5 1).all fun p => decide ((Z.parse (Z.lvPlain p.1 p.2)).2 = 0)) = true := by kernel_rfl
theorem Z.lv_52 : (Z.lvPairs 5 2).map (fun p => Z.parse (Z.lvPlain p.1 p.2)) = (Z.lvPairs 5 2).map (fun p => Z.parse (Z.lvWith 5 2 p.1 p.2)) := by kernel_rfl
theorem Z.le_52 : ((Z.lvPairs 5 2).all fun p => decide ((Z.parse (Z.lvPlain p.1 p.2)).2 = 0)) = true := by kernel_rfl
theorem Z.lv_53 : (Z.lvPairs 5 3).map (fun p => Z.parse (Z.lvPlain p.1 p.2)) = (Z.lvPairs 5 3).map (fun p => Z.parse (Z.lvWith 5 3 p.1 p.2)) := by kernel_rfl
theorem Z.le_53 : ((Z.lvPairs 5 3).all fun p => decide ((Z.parse (Z.lvPlain p.1 p.2)).2 = 0)) = true := by kernel_rfl
theorem Z.lv_54 : (Z.lvPairs 5 4).map (fun p => Z.parse (Z.lvPlain p.1 p.2)) = (Z.lvPairs 5 4).map (fun p => Z.parse (Z.lvWith 5 4 p.1 p.2)) := by kernel_rfl
theorem Z.le_54 : ((Z.lvPairs 5 4).all fun p => decide ((Z.parse (Z.lvPlain p.1 p.2)).2 = 0)) = true := by kernel_rfl
theorem Z.lv_55 : (Z.lvPairs 5 5).map (fun p => Z.parse (Z.lvPlain p.1 p.2)) = (Z.lvPairs 5 5).map (fun p => Z.parse (Z.lvWith 5 5 p.1 p.2)) := by kernel_rfl
theorem Z.le_55 : ((Z.lvPairs 5 5).all fun p => decide ((Z.parse (Z.lvPlain p.1 p.2)).2 = 0)) = true := by kernel_rfl
theorem Z.lv_end : Z.parse [115,101,108,101,99,116,32,110,111,116,32,120,32,61,32,121,32,97,110,100,32,45,32,120,32,124,124,32,121,32,105,115,32,110,117,108,108,32,102,114,111,109,32,116] = Z.parse [115,101,108,101,99,116,32,40,110,111,116,32,40,120,32,61,32,121,41,41,32,97,110,100,32,40,40,40,45,32,120,41,32,124,124,32,121,41,32,105,115,32,110,117,108,108,41,32,102,114,111,109,32,116] := by kernel_rfl
theorem Z.lv_end2 : (Z.parse [115,101,108,101,99,116,32,110,111,116,32,120,32,61,32,121,32,97,110,100,32,45,32,120,32,124,124,32,121,32,105,115,32,110,117,108,108,32,102,114,111,109,32,116]).2 = 0 := by kernel_rfl

theorem within_num (i : Int) (n : Nat) (h1 : 1 ≤ n) (h2 : n ≤ 9223372036854775807) : ∃ r : Nat, wrap64 ((IntKind.u64.wrap i).tmod n) = (r : Int) ∧ r < n := by
  have h0 : 0 ≤ IntKind.u64.wrap i := by
    simp only [IntKind.wrap, IntKind.bits, IntKind.signed]
    simp
    omega
  generalize IntKind.u64.wrap i = x at *
  rw [Int.tmod_eq_emod_of_nonneg h0]
  have h3 := Int.emod_nonneg x (b := (n : Int)) (by omega)
  have h4 := Int.emod_lt_of_pos x (b := (n : Int)) (by omega)
  generalize x % (n : Int) = y at *
  refine ⟨y.toNat, ?_, by omega⟩
  rw [Int.toNat_of_nonneg h3]
  unfold wrap64
  omega

set_option maxRecDepth 100000 in
set_option maxHeartbeats 400000 in
theorem within_any (i : Int) (n : Nat) (h1 : 1 ≤ n) (h2 : n ≤ 9223372036854775807) (w : World) :
    Calls Tryz.prog 15 #[.int .i64 i, .int .i64 n] w fun e w' => (∃ r : Nat, e = .returned (.int .i64 r) ∧ r < n) ∧ w' = w := by
  have hz : ((n : Int) == 0) = false := by rw [beq_eq_false_iff_ne]; omega
  go_enter Tryz.func15, Tryz.ntmps15
  go_wp2
  go_ret
  obtain ⟨r, hr, hlt⟩ := within_num i n h1 h2
  refine ⟨⟨r, ?_, hlt⟩, rfl⟩
  rw [← hr]
  rfl

theorem within_at (i : Int) (n : Nat) (N : Int) (hN : N = (n : Int)) (h1 : 1 ≤ n) (h2 : n ≤ 9223372036854775807) (w : World) :
    Calls Tryz.prog 15 #[.int .i64 i, .int .i64 N] w fun e w' => (∃ r : Nat, e = .returned (.int .i64 r) ∧ r < n) ∧ w' = w := by
  subst hN
  exact within_any i n h1 h2 w

theorem Z.lv_at {i k : Nat} (h : (Z.lvPairs i k).map (fun p => Z.parse (Z.lvPlain p.1 p.2)) = (Z.lvPairs i k).map (fun p => Z.parse (Z.lvWith i k p.1 p.2))) (h2 : ((Z.lvPairs i k).all fun p => decide ((Z.parse (Z.lvPlain p.1 p.2)).2 = 0)) = true) {a b : List UInt8} (hab : (a, b) ∈ Z.lvPairs i k) : Z.parse (Z.lvWith i k a b) = Z.parse (Z.lvPlain a b) ∧ (Z.parse (Z.lvPlain a b)).2 = 0 :=
  ⟨(List.map_inj_left.1 h (a, b) hab).symm, by simpa using List.all_eq_true.1 h2 (a, b) hab⟩
theorem Z.lv_any {i k : Nat} (hi : i < 6) (hk : k < 6) {a b : List UInt8} (hab : (a, b) ∈ Z.lvPairs i k) : Z.parse (Z.lvWith i k a b) = Z.parse (Z.lvPlain a b) ∧ (Z.parse (Z.lvPlain a b)).2 = 0 := by
  have h6 : ∀ n : Nat, n < 6 → n = 0 ∨ n = 1 ∨ n = 2 ∨ n = 3 ∨ n = 4 ∨ n = 5 := fun n _ => by omega
  rcases h6 i hi with rfl | rfl | rfl | rfl | rfl | rfl <;> rcases h6 k hk with rfl | rfl | rfl | rfl | rfl | rfl
  · exact Z.lv_at Z.lv_00 Z.le_00 hab
  · exact Z.lv_at Z.lv_01 Z.le_01 hab
  · exact Z.lv_at Z.lv_02 Z.le_02 hab
  · exact Z.lv_at Z.lv_03 Z.le_03 hab
  · exact Z.lv_at Z.lv_04 Z.le_04 hab
  · exact Z.lv_at Z.lv_05 Z.le_05 hab
  · exact Z.lv_at Z.lv_10 Z.le_10 hab
  · exact Z.lv_at Z.lv_11 Z.le_11 hab
  · exact Z.lv_at Z.lv_12 Z.le_12 hab
  · exact Z.lv_at Z.lv_13 Z.le_13 hab
  · exact Z.lv_at Z.lv_14 Z.le_14 hab
  · exact Z.lv_at Z.lv_15 Z.le_15 hab
  · exact Z.lv_at Z.lv_20 Z.le_20 hab
  · exact Z.lv_at Z.lv_21 Z.le_21 hab
  · exact Z.lv_at Z.lv_22 Z.le_22 hab
  · exact Z.lv_at Z.lv_23 Z.le_23 hab
  · exact Z.lv_at Z.lv_24 Z.le_24 hab
  · exact Z.lv_at Z.lv_25 Z.le_25 hab
  · exact Z.lv_at Z.lv_30 Z.le_30 hab
  · exact Z.lv_at Z.lv_31 Z.le_31 hab
  · exact Z.lv_at Z.lv_32 Z.le_32 hab
  · exact Z.lv_at Z.lv_33 Z.le_33 hab
  · exact Z.lv_at Z.lv_34 Z.le_34 hab
  · exact Z.lv_at Z.lv_35 Z.le_35 hab
  · exact Z.lv_at Z.lv_40 Z.le_40 hab
  · exact Z.lv_at Z.lv_41 Z.le_41 hab
  · exact Z.lv_at Z.lv_42 Z.le_42 hab
  · exact Z.lv_at Z.lv_43 Z.le_43 hab
  · exact Z.lv_at Z.lv_44 Z.le_44 hab
  · exact Z.lv_at Z.lv_45 Z.le_45 hab
  · exact Z.lv_at Z.lv_50 Z.le_50 hab
  · exact Z.lv_at Z.lv_51 Z.le_51 hab
  · exact Z.lv_at Z.lv_52 Z.le_52 hab
  · exact Z.lv_at Z.lv_53 Z.le_53 hab
  · exact Z.lv_at Z.lv_54 Z.le_54 hab
  · exact Z.lv_at Z.lv_55 Z.le_55 hab
theorem Z.lv_mem {i k : Nat} {a b : List UInt8} (ha : a ∈ Z.opLevels.getD i []) (hb : b ∈ Z.opLevels.getD k []) : (a, b) ∈ Z.lvPairs i k := by
  unfold Z.lvPairs
  rw [List.mem_flatMap]
  exact ⟨a, ha, List.mem_map.2 ⟨b, hb, rfl⟩⟩
end Go.Proofs.YtmepkmhfjgocgaaGreatDoor
