/-
  A WORLD THAT HOLDS WHAT THE ROWS LIST (ten package-level variables of Go's library), that it does, and what the list and the world's shape say of a world (Facts): the witness of every row of this seat. No condition.
-/
import Derived.Test.YtmaihiklcdidbaaDoorCards
import Derived.Test.YtmaihiklcdidbaaDoorTie
import Derived.Test.YtmaihiklcdidbaaDoorFold
import Derived.Lib.LaidTab
import Derived.Lib.LaidU8
import Derived.Deep.DeepHandedRow
import Derived.Deep.DeepWitnessRowRef
import Derived.Lib.LaidIn
import Derived.Stop.LaidErr
import Derived.Shelf.Vars
import Derived.Great.CaseRows
import Derived.ProofKit
namespace Go.Proofs.YtmaihiklcdidbaaDoor
namespace Wit
open Go.ChangeShapes Go.WideShapes Go.ChangeAt Go.RowKit Go.Lib

theorem own : ownKnob Tryd.prog.godebug = none := by kernel_rfl
/-- The cells of a datum that holds no pointer. -/
def flatD : Nat → DataW Unit → List Value
  | _, .lit (.int k n) => [.int k n]
  | _, .lit (.string l) => [.string ⟨l.toArray⟩]
  | n + 1, .agg l => l.flatMap (flatD n)
  | n + 1, .slice l _ => l.flatMap (flatD n)
  | _, _ => []
def errText : DataW Unit → List Value
  | .iface _ (.ptr d) => flatD 4 d
  | _ => []
/-- The case table's rows. -/
def casesT : List CaseRow := Go.Pinned.caseRows
/-- THE WITNESS: the settled world with four blocks more (two errors' texts, two tables' rows), the ten variables holding what their initialisers lay. -/
noncomputable def laidWorld (os : Os) : World :=
  let w0 := World.holding Tryd.prog os ⟨#[.cells (errText Rows.laid_strconv_ErrSyntax).toArray 155, .cells (errText Rows.laid_strconv_ErrRange).toArray 155,
    .cells (flatD 4 Rows.laid_unicode_caseOrbit).toArray 129, .cells (casesT.flatMap cells5).toArray 148], #[], []⟩
  let put (h : Array Obj) (g : Nat) (cs : Array Value) : Array Obj := h.modify g fun
    | .cells _ t frozen => .cells cs t frozen
    | o => o
  let h1 := put w0.heap 1 (flatD 4 Rows.laid_internal_strconv_uint64pow10).toArray
  let h2 := put h1 2 (flatD 4 Rows.laid_unicode_asciiFold).toArray
  let h3 := put h2 3 #[.slice (some ⟨18, 0, none⟩) 94 94]
  let h4 := put h3 4 #[.slice (some ⟨19, 0, none⟩) 336 336]
  let h5 := put h4 5 #[.iface 153 (.pointer (some ⟨16, 0, none⟩))]
  let h6 := put h5 6 #[.iface 153 (.pointer (some ⟨17, 0, none⟩))]
  let h7 := put h6 7 (flatD 4 Rows.laid_unicode_utf8_first).toArray
  let h8 := put h7 8 (flatD 4 Rows.laid_unicode_utf8_acceptRanges).toArray
  let h9 := put h8 9 (flatD 4 Rows.laid_math_bits_deBruijn32tab).toArray
  let h10 := put h9 10 (flatD 4 Rows.laid_math_bits_deBruijn64tab).toArray
  { w0 with heap := h10 }
set_option maxRecDepth 1000000 in
theorem piece1 (os : Os) (args : Array Value) : LaidIn Tryd.prog ((laidWorld os).forCall (fun _ _ => 0) ⟨#[], args, []⟩).memory
    [("math/bits.deBruijn32tab", Rows.laid_math_bits_deBruijn32tab), ("math/bits.deBruijn64tab", Rows.laid_math_bits_deBruijn64tab), ("internal/strconv.uint64pow10", Rows.laid_internal_strconv_uint64pow10), ("unicode/utf8.acceptRanges", Rows.laid_unicode_utf8_acceptRanges), ("strconv.ErrRange", Rows.laid_strconv_ErrRange), ("strconv.ErrSyntax", Rows.laid_strconv_ErrSyntax), ("unicode.asciiFold", Rows.laid_unicode_asciiFold), ("unicode.caseOrbit", Rows.laid_unicode_caseOrbit)] [1, 2, 3, 5, 6, 8, 9, 10, 16, 17, 18] :=
  LaidIn.of_run [1, 2, 3, 5, 6, 8, 9, 10, 16, 17, 18] 8 (by kernel_rfl) (by kernel_rfl) (by kernel_rfl) (by kernel_rfl)
theorem casesTypes : Go.Great.CTypes Tryd.prog 132 148 146 41 21 :=
  ⟨Tryd.underlying132, Tryd.underlying148, Tryd.underlying146, Tryd.underlying41, Tryd.underlying21, by kernel_rfl, by kernel_rfl, by kernel_rfl, by kernel_rfl⟩
theorem case_len : casesT.length = 336 := by kernel_rfl
theorem case_is : (Rows.laid_unicode_CaseRanges : DataW Unit) = .slice (casesT.map rowData) [] := by kernel_rfl
set_option maxRecDepth 1000000 in
theorem piece2 (os : Os) (args : Array Value) : LaidIn Tryd.prog ((laidWorld os).forCall (fun _ _ => 0) ⟨#[], args, []⟩).memory
    [("unicode.CaseRanges", Rows.laid_unicode_CaseRanges)] [4, 19] := by
  rw [case_is]
  exact Go.Great.laidIn_case casesTypes casesT (by kernel_rfl) (by kernel_rfl) (by rw [case_len]; decide) (by kernel_rfl) (tg := 132) (tb := 148) (by kernel_rfl) (by kernel_rfl) (by decide)
set_option maxRecDepth 1000000 in
theorem piece3 (os : Os) (args : Array Value) : LaidIn Tryd.prog ((laidWorld os).forCall (fun _ _ => 0) ⟨#[], args, []⟩).memory
    [("unicode/utf8.first", Rows.laid_unicode_utf8_first)] [7] :=
  LaidIn.of_run [7] 8 (by kernel_rfl) (by kernel_rfl) (by kernel_rfl) (by kernel_rfl)
theorem laid_met (os : Os) (args : Array Value) : laidMet Tryd.prog Rows.frameTakesRow.laid ((laidWorld os).forCall (fun _ _ => 0) ⟨#[], args, []⟩).memory :=
  (((piece1 os args).append (piece2 os args) (by kernel_rfl)).append (piece3 os args) (by kernel_rfl)).met
theorem variables_ref (os : Os) (args : Array Value) : ((laidWorld os).forCall (fun _ _ => 0) ⟨#[], args, []⟩).variablesRefB Tryd.prog = true := by kernel_rfl
/-- A variable that is an array of integers and reads as a table: it is that table. -/
theorem tabIs_of_reads {P : Program} {W : World} {name : String} {k : IntKind} {zs : List Int} {g : Nat} {t e : TypeId} {n : Nat}
    (hg : P.globalNamed name = some g) (hty : (P.globals[g]?).map (·.type) = some t) (ht : P.underlying t = some (.array n e)) (he : P.underlying e = some (.int k)) (hce : P.cellsOf e = 1) (hct : P.cellsOf t = n)
    (h : VarReads P W name (tabData k zs)) : TabIs P W name k zs := by
  obtain ⟨g', t', cs, fuel, p, hg', ht', hvar, hd⟩ := h
  obtain rfl := Option.some.inj (hg.symm.trans hg')
  obtain rfl := Option.some.inj (hty.symm.trans ht')
  unfold TabIs
  rw [hvar, ← cells_of_tab ht he hce hct hd]
def foldL : List Int := (List.range 128).map fun i => ((foldT i : Nat) : Int)
theorem fold_is : (Rows.laid_unicode_asciiFold : DataW Unit) = tabData .u16 foldL := by kernel_rfl
theorem pow_is : (Rows.laid_internal_strconv_uint64pow10 : DataW Unit) = tabData .u64 Lib.pow10Tab := by kernel_rfl
theorem gF : Tryd.prog.globalNamed "unicode.asciiFold" = some 2 := by kernel_rfl
theorem gP : Tryd.prog.globalNamed "internal/strconv.uint64pow10" = some 1 := by kernel_rfl
theorem gS : Tryd.prog.globalNamed "strconv.ErrSyntax" = some 5 := by kernel_rfl
theorem star : "*" ++ "errors.errorString" = "*errors.errorString" := by decide
theorem rowE (u : TypeId) (h : Tryd.prog.typeName? 3 u = some "*errors.errorString") : u = 153 :=
  typeName_ptr_named (nm := "errors.errorString") (by rw [star]; kernel_rfl) (by kernel_rfl) (by decide) u (by rw [star]; exact h)
/-- ████ What the list and the shape say. -/
theorem facts_of {W : World} (h : laidMet Tryd.prog Rows.frameTakesRow.laid W) (hs : W.ShapedOpen Tryd.prog) : Facts W := by
  have hp : TabIs Tryd.prog W "internal/strconv.uint64pow10" .u64 Lib.pow10Tab := by
    have := laidMet.reads h (show (_, Rows.laid_internal_strconv_uint64pow10) ∈ _ from .tail _ (.tail _ (.head _)))
    rw [pow_is] at this
    exact tabIs_of_reads gP (by kernel_rfl) Tryd.underlying112 Tryd.underlying92 (by kernel_rfl) (by kernel_rfl) this
  have hf : TabIs Tryd.prog W "unicode.asciiFold" .u16 foldL := by
    have := laidMet.reads h (show (_, Rows.laid_unicode_asciiFold) ∈ _ from .tail _ (.tail _ (.tail _ (.tail _ (.tail _ (.tail _ (.head _)))))))
    rw [fold_is] at this
    exact tabIs_of_reads gF (by kernel_rfl) Tryd.underlying126 Tryd.underlying125 (by kernel_rfl) (by kernel_rfl) this
  refine ⟨?_, ?_, fun i hi => ?_, hp⟩
  · exact cell_of_shapedOpen_int (P := Tryd.prog) (g := 0) (t := 3) (zero := #[.int .i64 0]) hs (show 0 < Tryd.prog.globals.size from by decide +kernel) (by kernel_rfl) rfl (by kernel_rfl) (by kernel_rfl) Tryd.underlying3
  · obtain ⟨a, s, hv, _, _, _⟩ := laid_sentinel h.tail.tail.tail.tail.tail gS (by kernel_rfl) Tryd.underlying79 rowE Tryd.underlying153 Tryd.underlying155 rfl rfl Tryd.underlying9 (by kernel_rfl) (by kernel_rfl)
    exact ⟨_, by rw [World.var?_cell gS hv 0]; rfl, .inr ⟨_, _, rfl⟩⟩
  · have := hf.cell gF i (by simpa [foldL] using hi)
    rw [this]
    have e : foldL.getD i 0 = ((foldT i : Nat) : Int) := by simp [foldL, List.getD, hi]
    rw [e]
end Wit
end Go.Proofs.YtmaihiklcdidbaaDoor
