/-
  A WORLD THAT HOLDS WHAT THE ROWS LIST (seven package-level variables of Go's library), that it does, and what the list says of a world (Facts): the witness of every row of this seat. No condition.
-/
import Derived.Test.YtfcboonbjlampaaDoorCards
import Derived.Test.YtfcboonbjlampaaDoorTie
import Derived.Test.YtfcboonbjlampaaDoorUnit
import Derived.Lib.LaidU8
import Derived.Deep.DeepHandedRow
import Derived.Deep.DeepWitnessRowRef
import Derived.Lib.LaidIn
import Derived.Stop.LaidErr
import Derived.ProofKit
namespace Go.Proofs.YtfcboonbjlampaaDoor
namespace Wit
open Go.ChangeShapes Go.WideShapes Go.ChangeAt Go.RowKit Go.Lib

theorem own : ownKnob Tryd.prog.godebug = none := by kernel_rfl
def flat1 : DataW Unit → List Value
  | .lit (.int k n) => [.int k n]
  | .lit (.string l) => [.string ⟨l.toArray⟩]
  | _ => []
def flat : DataW Unit → List Value
  | .agg l => l.flatMap flat1
  | d => flat1 d
def errText : DataW Unit → List Value
  | .iface _ (.ptr d) => flat d
  | _ => []
def flatRows : DataW Unit → List Value
  | .agg l => l.flatMap flat
  | _ => []
/-- THE WITNESS: the settled world with two blocks more (two errors' texts), the seven variables holding what their initialisers lay. -/
noncomputable def laidWorld (os : Os) : World :=
  let w0 := World.holding Tryd.prog os ⟨#[.cells (errText Rows.laid_strconv_ErrSyntax).toArray 135, .cells (errText Rows.laid_strconv_ErrRange).toArray 135], #[], []⟩
  let put (h : Array Obj) (g : Nat) (cs : Array Value) : Array Obj := h.modify g fun
    | .cells _ t frozen => .cells cs t frozen
    | o => o
  let h0 := put w0.heap 0 (flat Rows.laid_unicode_utf8_first).toArray
  let h1 := put h0 1 (flatRows Rows.laid_unicode_utf8_acceptRanges).toArray
  let h3 := put h1 3 #[.iface 133 (.pointer (some ⟨13, 0, none⟩))]
  let h4 := put h3 4 #[.iface 133 (.pointer (some ⟨14, 0, none⟩))]
  let h5 := put h4 5 (flat Rows.laid_internal_strconv_uint64pow10).toArray
  let h6 := put h5 6 (flat Rows.laid_math_bits_deBruijn32tab).toArray
  let h7 := put h6 7 (flat Rows.laid_math_bits_deBruijn64tab).toArray
  { w0 with heap := h7 }
set_option maxRecDepth 1000000 in
theorem laid_in (os : Os) (args : Array Value) : LaidIn Tryd.prog ((laidWorld os).forCall (fun _ _ => 0) ⟨#[], args, []⟩).memory
    [("math/bits.deBruijn32tab", Rows.laid_math_bits_deBruijn32tab), ("math/bits.deBruijn64tab", Rows.laid_math_bits_deBruijn64tab), ("internal/strconv.uint64pow10", Rows.laid_internal_strconv_uint64pow10), ("unicode/utf8.acceptRanges", Rows.laid_unicode_utf8_acceptRanges), ("strconv.ErrRange", Rows.laid_strconv_ErrRange), ("strconv.ErrSyntax", Rows.laid_strconv_ErrSyntax), ("unicode/utf8.first", Rows.laid_unicode_utf8_first)] [0, 1, 3, 4, 5, 6, 7, 13, 14] :=
  LaidIn.of_run [0, 1, 3, 4, 5, 6, 7, 13, 14] 8 (by kernel_rfl) (by kernel_rfl) (by kernel_rfl) (by kernel_rfl)
theorem laid_met (os : Os) (args : Array Value) : laidMet Tryd.prog Rows.jtextTokensRow.laid ((laidWorld os).forCall (fun _ _ => 0) ⟨#[], args, []⟩).memory := (laid_in os args).met
theorem variables_ref (os : Os) (args : Array Value) : ((laidWorld os).forCall (fun _ _ => 0) ⟨#[], args, []⟩).variablesRefB Tryd.prog = true := by kernel_rfl
theorem extra : U8Extra Tryd.prog Tryd.lays260_ren := ⟨by kernel_rfl, by kernel_rfl, by kernel_rfl, by kernel_rfl, by kernel_rfl, by kernel_rfl, by kernel_rfl⟩
theorem first_is : Rows.laid_unicode_utf8_first = Lib.firstData := by kernel_rfl
theorem accept_is : (Rows.laid_unicode_utf8_acceptRanges : DataW Unit) = Lib.acceptData := by kernel_rfl
theorem star : "*" ++ "errors.errorString" = "*errors.errorString" := by decide
theorem row86 (u : TypeId) (h : Tryd.prog.typeName? 3 u = some "*errors.errorString") : u = 133 :=
  typeName_ptr_named (nm := "errors.errorString") (by rw [star]; kernel_rfl) (by kernel_rfl) (by decide) u (by rw [star]; exact h)
theorem gS : Tryd.prog.globalNamed "strconv.ErrSyntax" = some 3 := by kernel_rfl
/-- ████ What the list says. -/
theorem facts_of {W : World} (h : laidMet Tryd.prog Rows.jtextTokensRow.laid W) : Facts W := by
  refine ⟨?_, ?_⟩
  · exact utf8Tabs_of_reads Tryd.lays260 extra
      (by have := laidMet.reads h (show (_, Rows.laid_unicode_utf8_first) ∈ _ from .tail _ (.tail _ (.tail _ (.tail _ (.tail _ (.tail _ (.head _))))))); rw [first_is] at this; exact this)
      (by have := laidMet.reads h (show (_, Rows.laid_unicode_utf8_acceptRanges) ∈ _ from .tail _ (.tail _ (.tail _ (.head _)))); rw [accept_is] at this; exact this)
  · obtain ⟨a, s, hv, _, _, _⟩ := laid_sentinel h.tail.tail.tail.tail.tail gS (by kernel_rfl) Tryd.underlying83 row86 Tryd.underlying133 Tryd.underlying135 rfl rfl Tryd.underlying9 (by kernel_rfl) (by kernel_rfl)
    exact ⟨_, by rw [World.var?_cell gS hv 0]; rfl, .inr ⟨_, _, rfl⟩⟩
end Wit
end Go.Proofs.YtfcboonbjlampaaDoor
