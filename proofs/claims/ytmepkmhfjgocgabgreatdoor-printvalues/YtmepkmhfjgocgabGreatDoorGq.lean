/-
  From the rows' condition to the walks' fact: what the package variables that the printer reads hold.
-/
import Derived.Test.YtmepkmhfjgocgabGreatDoorQp
import Derived.LaidMore
import Derived.OpenShut
import Derived.Stop.Joined
import Derived.Lib.LaidTab
import Derived.Shelf.Vars
namespace Go.Proofs.YtmepkmhfjgocgabGreatDoor
open Go.ChangeShapes Go.WideShapes Go.ChangeAt Go.RowKit Go.Deep

theorem gqA : (Tryz.prog.globals[1]?).map (·.type) = some 144 := by kernel_rfl
theorem gqAscii : Tryz.prog.globalNamed "strings.asciiSpace" = some 1 := by kernel_rfl
theorem gqAc : Tryz.prog.cellsOf 144 = 256 := by kernel_rfl
theorem gq5 : Tryz.prog.cellsOf 5 = 1 := by kernel_rfl
theorem gqU : Tryz.prog.cellsOf 189 = 1 := by kernel_rfl
theorem gqW : (Tryz.prog.globals[4]?).map (·.type) = some 216 := by kernel_rfl
theorem gqWc : Tryz.prog.cellsOf 216 = 20 := by kernel_rfl
theorem gqP : (Tryz.prog.globals[0]?).map (·.type) = some 124 := by kernel_rfl
theorem gqPc : Tryz.prog.cellsOf 124 = 27 * 1 := by kernel_rfl
theorem ascii_is : (Rows.laid_strings_asciiSpace : DataW Unit) = Lib.tabData .u8 Lib.asciiSpaceTab := by kernel_rfl
theorem pow_is : (Rows.laid_internal_strconv_uint64pow10 : DataW Unit) = Lib.tabData .u64 Lib.pow10Tab := by kernel_rfl

/-- The cells of what reads as a row, from place to place. -/
theorem qrows_cut (sz : Nat) (f : DataW Unit → List Value) : ∀ (n : Nat) (cs : List Value) (xs : List (DataW Unit)), cs.length = n * sz → xs.length = n → (∀ i, i < n → ∀ d, xs[i]? = some d → (cs.drop (i * sz)).take sz = f d) → cs = xs.flatMap f
  | 0, cs, xs, h1, h2, _ => by
    obtain rfl := List.eq_nil_of_length_eq_zero (by simpa using h1 : cs.length = 0)
    obtain rfl := List.eq_nil_of_length_eq_zero h2
    rfl
  | n + 1, cs, xs, h1, h2, h3 => by
    match xs, h2 with
    | x :: xs, h2 =>
      have e0 := h3 0 (by omega) x rfl
      rw [Nat.zero_mul, List.drop_zero] at e0
      have hl : sz ≤ cs.length := by rw [h1, Nat.succ_mul]; omega
      have ih := qrows_cut sz f n (cs.drop sz) xs (by rw [List.length_drop, h1, Nat.succ_mul]; omega) (by simpa using h2) (fun i hi d hd => by
        have := h3 (i + 1) (by omega) d (by simpa using hd)
        rw [Nat.succ_mul, Nat.add_comm] at this
        rw [List.drop_drop]
        exact this)
      rw [List.flatMap_cons, ← e0, ← ih, List.take_append_drop]
def unS : DataW Unit → List Value
  | .lit (.string b) => [.string (S b)]
  | _ => []
section
variable {enc : TypeId × Value → Unit} {W : World} {base : Nat} {sp : Nat → Bool} {held : Bool} {fuel : Nat} {cs : List Value}
theorem one_str {x : DataW Unit × List MemPlace} (hl : cs.length = 1) (h : DataW.trod enc Tryz.prog W base sp held fuel 9 cs = some x) : cs = unS x.1 := by
  obtain ⟨s1, rfl, rfl, _⟩ := DataW.trod_string Tryz.underlying9 h
  rfl
theorem strs_cells {t : TypeId} {n : Nat} (ht : Tryz.prog.underlying t = some (.array n 9)) (hct : Tryz.prog.cellsOf t = n * 1)
    {ds : List (DataW Unit)} {p : List MemPlace} (h : DataW.trod enc Tryz.prog W base sp held fuel t cs = some (.agg ds, p)) : cs = ds.flatMap unS := by
  obtain ⟨xs, m, _, hx, hl, hn, hi⟩ := DataW.trod_array ht h
  simp only [Prod.mk.injEq, DataW.agg.injEq] at hx
  obtain ⟨rfl, _⟩ := hx
  rw [hct] at hl
  rw [xw9] at hi
  refine qrows_cut 1 unS n cs _ hl (by simpa using hn) fun i hlt d hd => ?_
  rw [List.getElem?_map] at hd
  obtain ⟨y, hy, rfl⟩ := Option.map_eq_some_iff.1 hd
  have h2 := hi i hlt
  rw [hy] at h2
  refine one_str ?_ h2
  rw [List.length_take, List.length_drop, hl]
  omega
end
theorem pats_is : ∃ ds : List (DataW Unit), (Rows.laid_cadastre_print_patterns : DataW Unit) = .agg ds ∧ (ds.flatMap unS = Q.patterns.map fun s => Value.string (S s)) := ⟨_, rfl, rfl⟩
theorem pats_of {W : World} {rest : List (String × DataW Unit)} (h : laidMet Tryz.prog (("cadastre/print.patterns", Rows.laid_cadastre_print_patterns) :: rest) W) : W.var? Tryz.prog "cadastre/print.patterns" = some (Q.patterns.map fun s => Value.string (S s)).toArray := by
  obtain ⟨ds, he, hf⟩ := pats_is
  rw [he] at h
  obtain ⟨ps, ⟨g', t', cs, fuel, p, q, hg', ht', hvar, hd, _, _⟩, _⟩ := h
  obtain rfl := Option.some.inj (gPats.symm.trans hg')
  obtain rfl := Option.some.inj (gqP.symm.trans ht')
  rw [hvar]
  exact congrArg some (Array.toList_inj.1 (by rw [strs_cells Tryz.underlying124 gqPc hd, hf]))
theorem ascii_of {W : World} {rest : List (String × DataW Unit)} (h : laidMet Tryz.prog (("strings.asciiSpace", Rows.laid_strings_asciiSpace) :: rest) W) : Lib.TabIs Tryz.prog W "strings.asciiSpace" .u8 Lib.asciiSpaceTab := by
  rw [ascii_is] at h
  exact Lib.tabIs_of_head gqAscii gqA Tryz.underlying144 Tryz.underlying5 gq5 gqAc h
theorem pow_of {W : World} {rest : List (String × DataW Unit)} (h : laidMet Tryz.prog (("internal/strconv.uint64pow10", Rows.laid_internal_strconv_uint64pow10) :: rest) W) : Lib.TabIs Tryz.prog W "internal/strconv.uint64pow10" .u64 Lib.pow10Tab := by
  rw [pow_is] at h
  exact Lib.tabIs_of_head gPow gqW Tryz.underlying216 Tryz.underlying189 gqU gqWc h
theorem len_of {W : World} (h : W.ShapedOpen Tryz.prog) : ∃ m, W.cell? ⟨5, 0, none⟩ = some (.int .i64 m) :=
  cell_of_shapedOpen_int h (g := 5) (t := 3) (zero := #[.int .i64 0]) (of_decide_eq_true (by kernel_rfl)) (by kernel_rfl) rfl (by kernel_rfl) (by kernel_rfl) Tryz.underlying3
theorem size_of {W : World} (h : W.ShapedOpen Tryz.prog) : 14 ≤ W.heap.size := by
  have := (h.1 13 (((begin Tryz.prog (fun _ _ => 0) default).world.heap[13]?).bind Obj.row?).get!.1 (((begin Tryz.prog (fun _ _ => 0) default).world.heap[13]?).bind Obj.row?).get!.2 (of_decide_eq_true (by kernel_rfl)) (by kernel_rfl))
  obtain ⟨cs, hh, _⟩ := this
  exact Nat.succ_le_of_lt (Array.getElem?_eq_some_iff.1 hh).1
end Go.Proofs.YtmepkmhfjgocgabGreatDoor
