/-
  From the rows' condition to the walks' fact: what the package variables that the parser reads hold.
-/
import Derived.Test.YtmepkmhfjgocgaaGreatDoorYe
import Derived.Test.YtmepkmhfjgocgaaGreatDoorLn
import Derived.Test.YtmepkmhfjgocgaaGreatDoorRows
import Derived.Deep.Strs
import Derived.LaidMore
import Derived.OpenShut
import Derived.Stop.Joined
import Derived.Stop.LaidErr
import Derived.Lib.LaidTab
namespace Go.Proofs.YtmepkmhfjgocgaaGreatDoor
open Go.ChangeShapes Go.WideShapes Go.ChangeAt Go.RowKit Go.Deep

theorem star : "*" ++ "errors.errorString" = "*errors.errorString" := by decide
theorem rowE (u : TypeId) (h : Tryz.prog.typeName? 3 u = some "*errors.errorString") : u = 286 :=
  typeName_ptr_named (nm := "errors.errorString") (by rw [star]; kernel_rfl) (by kernel_rfl) (by decide) u (by rw [star]; exact h)
theorem gR : Tryz.prog.globalNamed "strconv.ErrRange" = some 7 := by kernel_rfl
theorem gRType : (Tryz.prog.globals[7]?).map (·.type) = some 204 := by kernel_rfl
theorem cellsE : Tryz.prog.cellsOf 288 = 1 := by kernel_rfl
theorem gAType : (Tryz.prog.globals[1]?).map (·.type) = some 180 := by kernel_rfl
theorem cellsA : Tryz.prog.cellsOf 180 = 256 := by kernel_rfl
theorem cells5 : Tryz.prog.cellsOf 5 = 1 := by kernel_rfl
theorem cells3 : Tryz.prog.cellsOf 3 = 1 := by kernel_rfl
theorem cells9 : Tryz.prog.cellsOf 9 = 1 := by kernel_rfl
theorem gJType : (Tryz.prog.globals[8]?).map (·.type) = some 278 := by kernel_rfl
theorem gFType : (Tryz.prog.globals[3]?).map (·.type) = some 264 := by kernel_rfl
theorem ascii_eq : (Rows.laid_strings_asciiSpace : DataW Unit) = Lib.tabData .u8 Lib.asciiSpaceTab := by kernel_rfl

theorem gform3 {cs : List Value} (h : cs.length = 3) : ∃ a b c, cs = [a, b, c] := match cs, h with | [_, _, _], _ => ⟨_, _, _, rfl⟩
theorem gform2 {cs : List Value} (h : cs.length = 2) : ∃ a b, cs = [a, b] := match cs, h with | [_, _], _ => ⟨_, _, rfl⟩

/-- The cells of what reads as a row of structs, from row to row. -/
theorem rows_cut (sz : Nat) (f : DataW Unit → List Value) : ∀ (n : Nat) (cs : List Value) (xs : List (DataW Unit)), cs.length = n * sz → xs.length = n → (∀ i, i < n → ∀ d, xs[i]? = some d → (cs.drop (i * sz)).take sz = f d) → cs = xs.flatMap f
  | 0, cs, xs, h1, h2, _ => by
    obtain rfl := List.eq_nil_of_length_eq_zero (by simpa using h1 : cs.length = 0)
    obtain rfl := List.eq_nil_of_length_eq_zero h2
    rfl
  | n + 1, cs, xs, h1, h2, h3 => by
    match xs, h2 with
    | x :: xs, h2 =>
      have e0 := h3 0 (by omega) x rfl
      rw [Nat.zero_mul, List.drop_zero] at e0
      have hl : sz ≤ cs.length := by rw [h1, Nat.succ_mul]; omega
      have ih := rows_cut sz f n (cs.drop sz) xs (by rw [List.length_drop, h1, Nat.succ_mul]; omega) (by simpa using h2) (fun i hi d hd => by
        have := h3 (i + 1) (by omega) d (by simpa using hd)
        rw [Nat.succ_mul, Nat.add_comm] at this
        rw [List.drop_drop]
        exact this)
      rw [List.flatMap_cons, ← e0, ← ih, List.take_append_drop]

def unJ : DataW Unit → List Value
  | .agg [.lit (.int _ a), .lit (.string b), .lit (.int _ c)] => [.int .i64 a, .string (S b), .int .i64 c]
  | _ => []
def unF : DataW Unit → List Value
  | .agg [.lit (.string b), .lit (.int _ c)] => [.string (S b), .int .i64 c]
  | _ => []
section
variable {enc : TypeId × Value → Unit} {W : World} {base : Nat} {sp : Nat → Bool} {held : Bool} {fuel : Nat} {cs : List Value}
theorem one_joint {x : DataW Unit × List MemPlace} (hl : cs.length = 3) (h : DataW.trod enc Tryz.prog W base sp held fuel 277 cs = some x) : cs = unJ x.1 := by
  obtain ⟨y0, y1, y2, n, rfl, _, h0, h1, h2⟩ := trod_struct3 Tryz.underlying277 h
  obtain ⟨a, b, c, rfl⟩ := gform3 hl
  simp only [cells3, cells9] at h0 h1 h2
  obtain ⟨z0, hc0, rfl, _⟩ := DataW.trod_int Tryz.underlying3 h0
  obtain ⟨s1, hc1, rfl, _⟩ := DataW.trod_string Tryz.underlying9 h1
  obtain ⟨z2, hc2, rfl, _⟩ := DataW.trod_int Tryz.underlying3 h2
  simp at hc0 hc1 hc2
  subst hc0 hc1 hc2
  rfl
theorem one_fun {x : DataW Unit × List MemPlace} (hl : cs.length = 2) (h : DataW.trod enc Tryz.prog W base sp held fuel 263 cs = some x) : cs = unF x.1 := by
  obtain ⟨y0, y1, n, rfl, _, h0, h1⟩ := trod_struct2 Tryz.underlying263 h
  obtain ⟨a, b, rfl⟩ := gform2 hl
  simp only [cells3, cells9] at h0 h1
  obtain ⟨s1, hc1, rfl, _⟩ := DataW.trod_string Tryz.underlying9 h0
  obtain ⟨z2, hc2, rfl, _⟩ := DataW.trod_int Tryz.underlying3 h1
  simp at hc1 hc2
  subst hc1 hc2
  rfl
theorem rows_cells {t e : TypeId} {n sz : Nat} {f : DataW Unit → List Value} (ht : Tryz.prog.underlying t = some (.array n e)) (hce : Tryz.prog.cellsOf e = sz) (hct : Tryz.prog.cellsOf t = n * sz)
    (one : ∀ {fuel : Nat} {cs : List Value} {x : DataW Unit × List MemPlace}, cs.length = sz → DataW.trod enc Tryz.prog W base sp held fuel e cs = some x → cs = f x.1)
    {ds : List (DataW Unit)} {p : List MemPlace} (h : DataW.trod enc Tryz.prog W base sp held fuel t cs = some (.agg ds, p)) : cs = ds.flatMap f := by
  obtain ⟨xs, m, _, hx, hl, hn, hi⟩ := DataW.trod_array ht h
  simp only [Prod.mk.injEq, DataW.agg.injEq] at hx
  obtain ⟨rfl, _⟩ := hx
  rw [hct] at hl
  rw [hce] at hi
  refine rows_cut sz f n cs _ hl (by simpa using hn) fun i hlt d hd => ?_
  rw [List.getElem?_map] at hd
  obtain ⟨y, hy, rfl⟩ := Option.map_eq_some_iff.1 hd
  have h2 := hi i hlt
  rw [hy] at h2
  refine one ?_ h2
  rw [List.length_take, List.length_drop, hl]
  have : (i + 1) * sz ≤ n * sz := Nat.mul_le_mul_right _ hlt
  rw [Nat.succ_mul] at this
  omega
end

theorem joints_eq : ∃ ds : List (DataW Unit), (Rows.laid_cadastre_parse_joints : DataW Unit) = .agg ds ∧ (ds.flatMap unJ = jointC) := ⟨_, rfl, rfl⟩
theorem funs_eq : ∃ ds : List (DataW Unit), (Rows.laid_cadastre_parse_functions : DataW Unit) = .agg ds ∧ (ds.flatMap unF = funC) := ⟨_, rfl, rfl⟩
theorem cellsJ : Tryz.prog.cellsOf 278 = 16 * 3 := by kernel_rfl
theorem cellsJ1 : Tryz.prog.cellsOf 277 = 3 := by kernel_rfl
theorem cellsF : Tryz.prog.cellsOf 264 = 5 * 2 := by kernel_rfl
theorem cellsF1 : Tryz.prog.cellsOf 263 = 2 := by kernel_rfl

/-- The condition, from the errors on. -/
theorem gb_of {W : World} {rest : List (String × DataW Unit)} (h : laidMet Tryz.prog ([("strconv.ErrRange", Rows.laid_strconv_ErrRange), ("strconv.ErrSyntax", Rows.laid_strconv_ErrSyntax), ("unicode.White_Space", Rows.laid_unicode_White_Space), ("strings.asciiSpace", Rows.laid_strings_asciiSpace), ("cadastre/parse.joints", Rows.laid_cadastre_parse_joints), ("cadastre/parse.functions", Rows.laid_cadastre_parse_functions)] ++ rest) W) : Gb W := by
  obtain ⟨a1, s1, hv1, _, _, _⟩ := laid_sentinel h gR gRType Tryz.underlying204 rowE Tryz.underlying286 Tryz.underlying288 rfl rfl Tryz.underlying9 cellsE cw9
  have hVr : Vr W := ⟨.iface 286 (.pointer (some a1)), by simpa using World.var?_cell gR hv1 0, .inr ⟨_, _, rfl⟩⟩
  have h3 := laidMet.tail (laidMet.tail (laidMet.tail h))
  have h4 := laidMet.tail h3
  have h5 := laidMet.tail h4
  rw [ascii_eq] at h3
  refine ⟨hVr, Lib.tabIs_of_head gAscii gAType Tryz.underlying180 Tryz.underlying5 cells5 cellsA h3, ?_, ?_⟩
  · obtain ⟨ds, he, hf⟩ := joints_eq
    rw [he] at h4
    obtain ⟨ps, ⟨g', t', cs, fuel, p, q, hg', ht', hvar, hd, _, _⟩, _⟩ := h4
    obtain rfl := Option.some.inj (gJoints.symm.trans hg')
    obtain rfl := Option.some.inj (gJType.symm.trans ht')
    rw [hvar]
    exact congrArg some (Array.toList_inj.1 (by rw [rows_cells Tryz.underlying278 cellsJ1 cellsJ one_joint hd, hf]))
  · obtain ⟨ds, he, hf⟩ := funs_eq
    rw [he] at h5
    obtain ⟨ps, ⟨g', t', cs, fuel, p, q, hg', ht', hvar, hd, _, _⟩, _⟩ := h5
    obtain rfl := Option.some.inj (gFuns.symm.trans hg')
    obtain rfl := Option.some.inj (gFType.symm.trans ht')
    rw [hvar]
    exact congrArg some (Array.toList_inj.1 (by rw [rows_cells Tryz.underlying264 cellsF1 cellsF one_fun hd, hf]))
end Go.Proofs.YtmepkmhfjgocgaaGreatDoor
