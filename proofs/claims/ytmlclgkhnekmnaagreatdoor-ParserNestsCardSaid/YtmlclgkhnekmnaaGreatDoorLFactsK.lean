/- Part of a proof. -/
import Derived.Test.YtmlclgkhnekmnaaGreatDoorCards
import Derived.Test.YtmlclgkhnekmnaaGreatDoorTie
import Derived.Deep.DeepHandedRow
import Derived.Deep.DeepWitnessRowRef
import Derived.Lib.LaidIn
import Derived.Lib.LaidSlice
import Derived.Lib.LaidU8
import Derived.Stop.LaidErr
import Derived.Test.YtmlclgkhnekmnaaGreatDoorShelf3
import Derived.ProofKit
import Derived.Test.YtmlclgkhnekmnaaGreatDoorLVal
import Derived.OpenShut
import Derived.Test.YtmlclgkhnekmnaaGreatDoorFltU
namespace Go.Proofs.YtmlclgkhnekmnaaGreatDoor
namespace Wit
open Go.ChangeShapes Go.WideShapes Go.ChangeAt Go.RowKit Go.Lib
theorem own : ownKnob Tryz.prog.godebug = none := by kernel_rfl
def flat1 : DataW Unit → List Value
 | .lit (.int k n) => [.int k n]
 | .lit (.float k n) => [.float k n]
 | .lit (.bool b) => [.bool b]
 | .lit (.string l) => [.string ⟨l.toArray⟩]
 | _ => []
def flat : DataW Unit → List Value
 | .agg l => l.flatMap flat1
 | .slice l _ => l.flatMap flat1
 | d => flat1 d
def errText : DataW Unit → List Value
 | .iface _ (.ptr d) => flat d
 | _ => []
def flatRows : DataW Unit → List Value
 | .agg l => l.flatMap flat
 | .slice l _ => l.flatMap flat
 | _ => []
noncomputable def laidWorld (os : Os) : World :=
 let w0 := World.holding Tryz.prog os ⟨#[
  .cells (errText Rows.laid_strconv_ErrSyntax).toArray 173, .cells (errText Rows.laid_strconv_ErrRange).toArray 173,
  .cells (flat Rows.laid_internal_strconv_float32pow10).toArray 167, .cells (flat Rows.laid_internal_strconv_powtab).toArray 3, .cells (flat Rows.laid_internal_strconv_float64pow10).toArray 117,
  .cells (flatRows Rows.laid_internal_strconv_leftcheats).toArray 236], #[], []⟩
 let put (h : Array Obj) (g : Nat) (cs : Array Value) : Array Obj := h.modify g fun
  | .cells _ t frozen => .cells cs t frozen
  | o => o
 let h0 := put w0.heap 0 (flat Rows.laid_unicode_utf8_first).toArray
 let h1 := put h0 1 (flatRows Rows.laid_unicode_utf8_acceptRanges).toArray
 let h2 := put h1 2 (flat Rows.laid_emend_lexer_marks).toArray
 let h4 := put h2 4 #[.iface 171 (.pointer (some ⟨22, 0, none⟩))]
 let h5 := put h4 5 #[.iface 171 (.pointer (some ⟨23, 0, none⟩))]
 let h6 := put h5 6 (flat Rows.laid_internal_strconv_float32info).toArray
 let h7 := put h6 7 (flat Rows.laid_internal_strconv_optimize).toArray
 let h8 := put h7 8 (flat Rows.laid_internal_strconv_float64info).toArray
 let h9 := put h8 9 #[.slice (some ⟨24, 0, none⟩) 11 11]
 let h10 := put h9 10 #[.slice (some ⟨25, 0, none⟩) 9 9]
 let h11 := put h10 11 #[.slice (some ⟨26, 0, none⟩) 23 23]
 let h12 := put h11 12 (flatRows Rows.laid_internal_strconv_pow10Tab).toArray
 let h13 := put h12 13 (flat Rows.laid_internal_strconv_uint64pow10).toArray
 let h14 := put h13 14 #[.slice (some ⟨27, 0, none⟩) 61 61]
 let h15 := put h14 15 (flat Rows.laid_math_bits_deBruijn32tab).toArray
 let h16 := put h15 16 (flat Rows.laid_math_bits_deBruijn64tab).toArray
 { w0 with heap := h16 }
set_option maxRecDepth 1000000 in
theorem piece1 (os : Os) (args : Array Value) : LaidIn Tryz.prog ((laidWorld os).forCall (fun _ _ => 0) ⟨#[], args, []⟩).memory
 [("math/bits.deBruijn32tab", Rows.laid_math_bits_deBruijn32tab), ("math/bits.deBruijn64tab", Rows.laid_math_bits_deBruijn64tab), ("internal/strconv.float32info", Rows.laid_internal_strconv_float32info), ("internal/strconv.float64info", Rows.laid_internal_strconv_float64info), ("internal/strconv.optimize", Rows.laid_internal_strconv_optimize), ("internal/strconv.powtab", Rows.laid_internal_strconv_powtab), ("internal/strconv.float64pow10", Rows.laid_internal_strconv_float64pow10), ("internal/strconv.float32pow10", Rows.laid_internal_strconv_float32pow10), ("internal/strconv.uint64pow10", Rows.laid_internal_strconv_uint64pow10), ("unicode/utf8.acceptRanges", Rows.laid_unicode_utf8_acceptRanges), ("strconv.ErrRange", Rows.laid_strconv_ErrRange), ("strconv.ErrSyntax", Rows.laid_strconv_ErrSyntax), ("emend/lexer.marks", Rows.laid_emend_lexer_marks)] [1, 2, 4, 5, 6, 7, 8, 9, 10, 11, 13, 15, 16, 22, 23, 24, 25, 26] :=
 LaidIn.of_run [1, 2, 4, 5, 6, 7, 8, 9, 10, 11, 13, 15, 16, 22, 23, 24, 25, 26] 8 (by kernel_rfl) (by kernel_rfl) (by kernel_rfl) (by kernel_rfl)
set_option maxRecDepth 1000000 in
theorem piece2 (os : Os) (args : Array Value) : LaidIn Tryz.prog ((laidWorld os).forCall (fun _ _ => 0) ⟨#[], args, []⟩).memory
 [("internal/strconv.leftcheats", Rows.laid_internal_strconv_leftcheats)] [14, 27] :=
 LaidIn.of_run [14, 27] 8 (by kernel_rfl) (by kernel_rfl) (by kernel_rfl) (by kernel_rfl)
set_option maxRecDepth 1000000 in
theorem piece4 (os : Os) (args : Array Value) : LaidIn Tryz.prog ((laidWorld os).forCall (fun _ _ => 0) ⟨#[], args, []⟩).memory
 [("unicode/utf8.first", Rows.laid_unicode_utf8_first)] [0] :=
 LaidIn.of_run [0] 8 (by kernel_rfl) (by kernel_rfl) (by kernel_rfl) (by kernel_rfl)
def pairs (l : List (Nat × Nat)) : List Value := l.flatMap fun x => [.int .u64 (x.1 : Int), .int .u64 (x.2 : Int)]
theorem pairs_at : ∀ (l : List (Nat × Nat)) (i : Nat), i < l.length → ((pairs l).drop (i * 2)).take 2 = [.int .u64 ((l.getD i (0, 0)).1 : Int), .int .u64 ((l.getD i (0, 0)).2 : Int)]
 | [], i, h => by simp at h
 | x :: l, 0, _ => by simp [pairs]
 | x :: l, i + 1, h => by
  have := pairs_at l i (by simpa using h)
  rw [show (i + 1) * 2 = i * 2 + 1 + 1 from by omega]
  simpa [pairs] using this
theorem pairs_length (l : List (Nat × Nat)) : (pairs l).length = 2 * l.length := by
 induction l with
 | nil => rfl
 | cons x l ih => simp only [pairs, List.flatMap_cons, List.length_append, List.length_cons, List.length_nil] at ih ⊢; omega
theorem pairs_int (l : List (Nat × Nat)) : ∀ v ∈ pairs l, ∃ n, v = .int .u64 n := by
 intro v hv
 obtain ⟨x, _, hx⟩ := List.mem_flatMap.1 hv
 simp only [List.mem_cons, List.mem_nil_iff, or_false] at hx
 rcases hx with rfl | rfl <;> exact ⟨_, rfl⟩
theorem pairs_noIface (l : List (Nat × Nat)) (i : Nat) (u : TypeId) (v : Value) (hc : (pairs l).toArray[i]? = some (.iface u v)) {p : Prop} : p := by
 have hmem := Array.mem_of_getElem? hc
 rw [List.mem_toArray] at hmem
 obtain ⟨n, hn'⟩ := pairs_int l _ hmem
 cases hn'
def pairData (x : Nat × Nat) : DataW Unit := .agg [.lit (.int .u64 x.1), .lit (.int .u64 x.2)]
theorem c191 : Tryz.prog.cellsOf 226 = 2 := by kernel_rfl
theorem c192 : Tryz.prog.cellsOf 227 = 1392 := by kernel_rfl
theorem read_pair (w : World) (a b : Nat) (ha : (Lit.int .u64 (a : Int)).wf = true) (hb : (Lit.int .u64 (b : Int)).wf = true) :
 DataW.trod (fun _ => ()) Tryz.prog w 0 (fun _ => true) false 3 226 [.int .u64 a, .int .u64 b] = some (.agg [.lit (.int .u64 a), .lit (.int .u64 b)], []) := by
 have h1 : ∀ n : Nat, (Lit.int .u64 (n : Int)).wf = true → DataW.trod (fun _ => ()) Tryz.prog w 0 (fun _ => true) false 2 150 [.int .u64 n] = some (.lit (.int .u64 n), []) := by
  intro n hn
  unfold DataW.trod
  rw [show Tryz.prog.underlying 150 = some (.int .u64) from by kernel_rfl]
  simp [hn]
 have c30 : Tryz.prog.cellsOf 150 = 1 := by kernel_rfl
 have e1 := h1 a ha
 have e2 := h1 b hb
 unfold DataW.trod
 simp only [Tryz.underlying226]
 simp [c191, c30, e1, e2]
theorem rows_wf : (Go.Pinned.pow10Rows.all fun x => (Lit.int .u64 (x.1 : Int)).wf && (Lit.int .u64 (x.2 : Int)).wf) = true := by kernel_rfl
theorem rows_length : Go.Pinned.pow10Rows.length = 696 := by kernel_rfl
theorem read_table (w : World) (l : List (Nat × Nat)) (hl : l.length = 696) (hwf : (l.all fun x => (Lit.int .u64 (x.1 : Int)).wf && (Lit.int .u64 (x.2 : Int)).wf) = true) :
 DataW.trod (fun _ => ()) Tryz.prog w 0 (fun _ => true) false 4 227 (pairs l) = some (.agg (l.map pairData), []) := by
 have helem : ∀ i ∈ List.range 696, DataW.trod (fun _ => ()) Tryz.prog w 0 (fun _ => true) false 3 226 (((pairs l).drop (i * Tryz.prog.cellsOf 226)).take (Tryz.prog.cellsOf 226)) = some ((fun i => (pairData (l.getD i (0, 0)), ([] : List MemPlace))) i) := by
  intro i hi
  have hi' : i < l.length := by rw [hl]; exact List.mem_range.1 hi
  rw [c191, pairs_at l i hi']
  have hm := List.all_eq_true.1 hwf (l.getD i (0, 0)) (by simp [List.getD, List.getElem?_eq_getElem hi'])
  simp only [Bool.and_eq_true] at hm
  exact read_pair w _ _ hm.1 hm.2
 have hdata : ((List.range 696).map fun i => pairData (l.getD i (0, 0))) = l.map pairData := by
  apply List.ext_getElem (by simp [hl])
  intro i h1 h2
  simp at h2
  simp [List.getD, List.getElem?_eq_getElem h2]
 unfold DataW.trod
 simp only [Tryz.underlying227]
 simp only [pairs_length, hl, c192]
 rw [if_pos trivial, mapM_someR _ _ _ helem]
 simp only [Option.map_some, List.map_map, Function.comp_def, Option.some.injEq, Prod.mk.injEq]
 refine ⟨by rw [hdata], by simp⟩
theorem laid_pairs (w : World) (l : List (Nat × Nat)) (hl : l.length = 696) (hwf : (l.all fun x => (Lit.int .u64 (x.1 : Int)).wf && (Lit.int .u64 (x.2 : Int)).wf) = true)
 (hh : w.heap[12]? = some (.cells (pairs l).toArray 227 (0, 0))) : LaidIn Tryz.prog w [("internal/strconv.pow10Tab", .agg (l.map pairData))] [12] := by
 have hn : Tryz.prog.globalNamed "internal/strconv.pow10Tab" = some 12 := by kernel_rfl
 have hv : w.var? Tryz.prog "internal/strconv.pow10Tab" = some (pairs l).toArray := by simp [World.var?, hn, hh]
 refine LaidIn.one _ hn (by kernel_rfl) hv (read_table w l hl hwf) ?_ ?_ ?_
 · rw [List.append_nil]; exact rowP_nodup _ _
 · rw [List.append_nil]
   intro b off hp
   obtain ⟨i, hi, e'⟩ := MemPlace.mem_row.1 hp
   obtain ⟨rfl, rfl⟩ : b = 12 ∧ off = 0 + i := by simpa using e'
   refine ⟨⟨_, _, hh⟩, fun u v hc => ?_⟩
   rw [cell_of_heap hh] at hc
   have hf : False := pairs_noIface l _ _ _ hc
   exact hf.elim
 · rw [List.append_nil]
   intro x hx
   obtain ⟨i, _, rfl⟩ := MemPlace.mem_row.1 hx
   exact List.mem_singleton.2 rfl
theorem piece3 (os : Os) (args : Array Value) : LaidIn Tryz.prog ((laidWorld os).forCall (fun _ _ => 0) ⟨#[], args, []⟩).memory
 [("internal/strconv.pow10Tab", Rows.laid_internal_strconv_pow10Tab)] [12] :=
 laid_pairs _ Go.Pinned.pow10Rows rows_length rows_wf (by kernel_rfl)
theorem laid_met (os : Os) (args : Array Value) : laidMet Tryz.prog Rows.parserNestsRow.laid ((laidWorld os).forCall (fun _ _ => 0) ⟨#[], args, []⟩).memory :=
 ((((piece1 os args).append (piece2 os args) (by kernel_rfl)).append (piece3 os args) (by kernel_rfl)).append (piece4 os args) (by kernel_rfl)).met
theorem typesTab : Tryz.prog.cellTypes Tryz.prog.depth 227 = some (List.replicate 696 [150, 150]).flatten := by kernel_rfl
theorem flat_length (n : Nat) : ((List.replicate n [(150 : Nat), 150]).flatten).length = 2 * n := by simp; omega
theorem flat_at (n i : Nat) (h : i < 2 * n) : ((List.replicate n [(150 : Nat), 150]).flatten)[i]? = some 150 := by
 have hl : ((List.replicate n [(150 : Nat), 150]).flatten).length = 2 * n := by simp; omega
 obtain ⟨x, hx⟩ : ∃ x, ((List.replicate n [(150 : Nat), 150]).flatten)[i]? = some x := ⟨_, List.getElem?_eq_getElem (by omega)⟩
 have hm := List.mem_of_getElem? hx
 obtain ⟨l, hl', hx'⟩ := List.mem_flatten.1 hm
 have := List.eq_of_mem_replicate hl'
 subst this
 rw [hx]
 simpa using hx'
theorem pairs_wf (l : List (Nat × Nat)) (hwf : (l.all fun x => (Lit.int .u64 (x.1 : Int)).wf && (Lit.int .u64 (x.2 : Int)).wf) = true) : ∀ v ∈ pairs l, ∃ n, v = .int .u64 n ∧ (Lit.int .u64 n).wf = true := by
 intro v hv
 obtain ⟨x, hx0, hx⟩ := List.mem_flatMap.1 hv
 have hm := List.all_eq_true.1 hwf x hx0
 simp only [Bool.and_eq_true] at hm
 simp only [List.mem_cons, List.mem_nil_iff, or_false] at hx
 rcases hx with rfl | rfl
 · exact ⟨_, rfl, hm.1⟩
 · exact ⟨_, rfl, hm.2⟩
theorem okRow (w : World) (l : List (Nat × Nat)) (hl : l.length = 696) (hwf : (l.all fun x => (Lit.int .u64 (x.1 : Int)).wf && (Lit.int .u64 (x.2 : Int)).wf) = true) : Row.okRefB Tryz.prog w 227 (pairs l).toArray = true := by
 have hs : (pairs l).toArray.size = 1392 := by rw [List.size_toArray, pairs_length, hl]
 have ht : ((List.replicate 696 [(150 : Nat), 150]).flatten).length = 1392 := flat_length 696
 unfold Row.okRefB
 rw [typesTab]
 simp only [hs, ht, Bool.and_eq_true, List.all_eq_true, List.mem_range]
 refine ⟨rfl, fun i hi => ?_⟩
 rw [Nat.mod_eq_of_lt hi, flat_at 696 i hi]
 obtain ⟨v, hv⟩ : ∃ v, (pairs l)[i]? = some v := ⟨_, List.getElem?_eq_getElem (by rw [pairs_length, hl]; exact hi)⟩
 rw [List.getElem?_toArray, hv]
 obtain ⟨n, rfl, hn⟩ := pairs_wf l hwf v (List.mem_of_getElem? hv)
 show Cell.okRefB Tryz.prog w 150 (.int .u64 n) = true
 unfold Cell.okRefB Cell.okB
 rw [Tryz.underlying150]
 simpa [Lit.wf] using hn
noncomputable def zeroTable : Array Value := match (((begin Tryz.prog (fun _ _ => 0) default).world.heap[12]?).bind Obj.row?) with
 | some (z, _) => z
 | none => #[]
theorem zero_is : ((begin Tryz.prog (fun _ _ => 0) default).world.heap[12]?).bind Obj.row? = some (zeroTable, 227) := by kernel_rfl
theorem zero_size : zeroTable.size = 1392 := by kernel_rfl
theorem variables_ref (os : Os) (args : Array Value) : ((laidWorld os).forCall (fun _ _ => 0) ⟨#[], args, []⟩).variablesRefB Tryz.prog = true := by
 have hn : Tryz.prog.globals.size = 17 := by kernel_rfl
 unfold World.variablesRefB
 simp only [hn]
 rw [show List.range 17 = [0, 1, 2, 3, 4, 5, 6, 7, 8, 9, 10, 11, 12, 13, 14, 15, 16] from rfl]
 simp only [List.all_cons, List.all_nil, Bool.and_eq_true, and_true]
 refine ⟨by kernel_rfl, by kernel_rfl, by kernel_rfl, by kernel_rfl, by kernel_rfl, by kernel_rfl, by kernel_rfl, by kernel_rfl, by kernel_rfl, by kernel_rfl, by kernel_rfl, by kernel_rfl, ?_, by kernel_rfl, by kernel_rfl, by kernel_rfl, by kernel_rfl⟩
 have hh : ((laidWorld os).forCall (fun _ _ => 0) ⟨#[], args, []⟩).heap[12]? = some (.cells (pairs Go.Pinned.pow10Rows).toArray 227 (0, 0)) := by kernel_rfl
 have hz : (pairs Go.Pinned.pow10Rows).toArray.size = 1392 := by rw [List.size_toArray, pairs_length, rows_length]
 rw [zero_is, hh]
 simp only [hz, zero_size]
 rw [okRow _ _ rows_length rows_wf]
 simp
theorem extra : U8Extra Tryz.prog Tryz.lays260_ren := ⟨by kernel_rfl, by kernel_rfl, by kernel_rfl, by kernel_rfl, by kernel_rfl, by kernel_rfl, by kernel_rfl⟩
theorem first_is : Rows.laid_unicode_utf8_first = Lib.firstData := by kernel_rfl
theorem accept_is : (Rows.laid_unicode_utf8_acceptRanges : DataW Unit) = Lib.acceptData := by kernel_rfl
theorem star : "*" ++ "errors.errorString" = "*errors.errorString" := by decide
theorem rowErr (u : TypeId) (h : Tryz.prog.typeName? 3 u = some "*errors.errorString") : u = 171 :=
 typeName_ptr_named (nm := "errors.errorString") (by rw [star]; kernel_rfl) (by kernel_rfl) (by decide) u (by rw [star]; exact h)
theorem gR : Tryz.prog.globalNamed "strconv.ErrRange" = some 5 := by kernel_rfl
end Wit
end Go.Proofs.YtmlclgkhnekmnaaGreatDoor
namespace Go.Proofs.YtmlclgkhnekmnaaGreatDoor
open Go.ChangeShapes Go.WideShapes Go.ChangeAt Go.RowKit Go.Lib
theorem trod_str1 {H : Type} {enc : TypeId × Value → H} {P : Program} {w : World} {base fuel : Nat} {sp : Nat → Bool} {held : Bool} {t : TypeId} {cs : List Value} {l : List UInt8} {p : List MemPlace}
 (ht : P.underlying t = some .string) (h : DataW.trod enc P w base sp held fuel t cs = some (.lit (.string l), p)) : ∃ s : ByteArray, cs = [.string s] ∧ s.data.toList = l := by
 cases fuel with
 | zero => simp [DataW.trod] at h
 | succ n =>
  unfold DataW.trod at h
  rw [ht] at h
  split at h <;> simp_all
theorem strs_of_reads {P : Program} {W : World} {name : String} {g : Nat} {t e : TypeId} {n : Nat} {l : List (List UInt8)} (hn : P.globalNamed name = some g) (hy : (P.globals[g]?).map (·.type) = some t)
 (ht : P.underlying t = some (.array n e)) (he : P.underlying e = some .string) (hc : P.cellsOf e = 1) (h : VarReads P W name (.agg (l.map fun x => .lit (.string x)))) :
 ∀ (j : Nat) (m : List UInt8), l[j]? = some m → W.cell? ⟨g, j, none⟩ = some (.string ⟨m.toArray⟩) := by
 obtain ⟨g', t', cs, fuel, p, hg, hty, hvar, hd⟩ := h
 obtain rfl := Option.some.inj (hn.symm.trans hg)
 obtain rfl := Option.some.inj (hy.symm.trans hty)
 obtain ⟨xs, m0, rfl, hx, hl, hxl, hall⟩ := DataW.trod_array ht hd
 have e0 := congrArg Prod.fst hx
 simp only [DataW.agg.injEq] at e0
 intro j m hj
 have hjl : j < l.length := (List.getElem?_eq_some_iff.1 hj).1
 have hlen : xs.length = l.length := by
  have := congrArg List.length e0
  simp at this
  omega
 have h1 := hall j (by omega)
 obtain ⟨b, hb⟩ : ∃ b, xs[j]? = some b := ⟨xs[j]'(by omega), List.getElem?_eq_getElem (by omega)⟩
 rw [hb, hc, Nat.mul_one] at h1
 have hb1 : b.1 = .lit (.string m) := by
  have := congrArg (·[j]?) e0
  simp only [List.getElem?_map, hb, hj, Option.map_some, Option.some.injEq] at this
  exact this.symm
 obtain ⟨b1, b2⟩ := b
 simp only at hb1
 subst hb1
 obtain ⟨s, hs, hsm⟩ := trod_str1 he h1
 have hs0 := congrArg (·[0]?) hs
 simp only [List.getElem?_take, List.getElem?_drop, List.getElem?_cons_zero] at hs0
 rw [if_pos (by omega), Nat.add_zero] at hs0
 rw [World.var?_cell hg hvar j, ← Array.getElem?_toList, hs0]
 have : s = ⟨m.toArray⟩ := by
  apply ByteArray.ext
  rw [← hsm]
 rw [this]
theorem marks_data : (Rows.laid_emend_lexer_marks : DataW Unit) = .agg (markB.map fun x => .lit (.string x)) := by kernel_rfl
theorem Wit.facts_of {W : World} (h : laidMet Tryz.prog Rows.parserNestsRow.laid W) (_ : W.ShapedOpen Tryz.prog) : Facts W := by
 refine ⟨?_, ?_, ?_⟩
 · exact utf8Tabs_of_reads Tryz.lays260 Wit.extra
    (by have := laidMet.reads h (show (_, Rows.laid_unicode_utf8_first) ∈ _ from .tail _ (.tail _ (.tail _ (.tail _ (.tail _ (.tail _ (.tail _ (.tail _ (.tail _ (.tail _ (.tail _ (.tail _ (.tail _ (.tail _ (.tail _ (.head _)))))))))))))))); rw [Wit.first_is] at this; exact this)
    (by have := laidMet.reads h (show (_, Rows.laid_unicode_utf8_acceptRanges) ∈ _ from .tail _ (.tail _ (.tail _ (.tail _ (.tail _ (.tail _ (.tail _ (.tail _ (.tail _ (.head _)))))))))); rw [Wit.accept_is] at this; exact this)
 · have := laidMet.reads h (show (_, Rows.laid_emend_lexer_marks) ∈ _ from .tail _ (.tail _ (.tail _ (.tail _ (.tail _ (.tail _ (.tail _ (.tail _ (.tail _ (.tail _ (.tail _ (.tail _ (.head _)))))))))))))
   rw [marks_data] at this
   exact strs_of_reads (by kernel_rfl) (by kernel_rfl) Tryz.underlying132 Tryz.underlying9 (by kernel_rfl) this
 · obtain ⟨a, s, hv, _, _, _⟩ := laid_sentinel h.tail.tail.tail.tail.tail.tail.tail.tail.tail.tail Wit.gR (by kernel_rfl) Tryz.underlying134 Wit.rowErr Tryz.underlying171 Tryz.underlying173 rfl rfl Tryz.underlying9 (by kernel_rfl) (by kernel_rfl)
   exact ⟨_, by rw [World.var?_cell Wit.gR hv 0]; rfl, .inr ⟨_, _, rfl⟩⟩
end Go.Proofs.YtmlclgkhnekmnaaGreatDoor
namespace Go.Proofs.YtmlclgkhnekmnaaGreatDoor
open Go.ChangeShapes Go.WideShapes Go.ChangeAt Go.RowKit Go.Lib
theorem trod_bool1 {H : Type} {enc : TypeId × Value → H} {P : Program} {w : World} {base fuel : Nat} {sp : Nat → Bool} {held : Bool} {t : TypeId} {cs : List Value} {b : Bool} {p : List MemPlace}
 (ht : P.underlying t = some .bool) (h : DataW.trod enc P w base sp held fuel t cs = some (.lit (.bool b), p)) : cs = [.bool b] := by
 cases fuel with
 | zero => simp [DataW.trod] at h
 | succ n =>
  unfold DataW.trod at h
  rw [ht] at h
  split at h <;> simp_all
theorem trod_float1 {H : Type} {enc : TypeId × Value → H} {P : Program} {w : World} {base fuel : Nat} {sp : Nat → Bool} {held : Bool} {t : TypeId} {cs : List Value} {k : FloatKind} {b : Nat} {p : List MemPlace}
 (ht : P.underlying t = some (.float k)) (h : DataW.trod enc P w base sp held fuel t cs = some (.lit (.float k b), p)) : cs = [.float k b] := by
 cases fuel with
 | zero => simp [DataW.trod] at h
 | succ n =>
  unfold DataW.trod at h
  rw [ht] at h
  split at h <;> simp_all
theorem mant_of_reads {W : World} (h : VarReads Tryz.prog W "internal/strconv.float64info" Rows.laid_internal_strconv_float64info) : W.cell? ⟨8, 0, none⟩ = some (.int .u64 52) := by
 obtain ⟨g, t, cs, fuel, p, hg, hty, hvar, hd⟩ := h
 obtain rfl := Option.some.inj ((show Tryz.prog.globalNamed "internal/strconv.float64info" = some 8 by kernel_rfl).symm.trans hg)
 obtain rfl := Option.some.inj ((show (Tryz.prog.globals[8]?).map (·.type) = some 181 by kernel_rfl).symm.trans hty)
 obtain ⟨xs, n, rfl, hx, hl, hxl, hall⟩ := DataW.trod_struct Tryz.underlying181 hd
 have h0 := hall 0 _ rfl
 have e0 := congrArg Prod.fst hx
 simp only [Rows.laid_internal_strconv_float64info, DataW.agg.injEq] at e0
 have e1 := congrArg (·[0]?) e0
 simp only [List.getElem?_map] at e1
 cases hx0 : xs[0]? with
 | none => rw [hx0] at e1; simp at e1
 | some b =>
  rw [hx0] at e1 h0
  have e1 := Option.some.inj e1
  obtain ⟨b1, b2⟩ := b
  subst e1
  obtain ⟨z, hz, hbz, _⟩ := DataW.trod_int (show Tryz.prog.underlying 125 = some (.int .u64) by kernel_rfl) h0
  rw [World.var?_cell hg hvar 0]
  have c1 : Tryz.prog.cellsOf 125 = 1 := by kernel_rfl
  have hz2 : (cs.toList.drop 0).take (Tryz.prog.cellsOf 125) = [.int .u64 z] := hz
  rw [c1, List.drop_zero] at hz2
  have h3 := congrArg (·[0]?) hz2
  simp only [List.getElem?_take, List.getElem?_cons_zero] at h3
  have hz3 : z = 52 := by
   have h4 : z = 52 ∧ b2 = [] := by simpa using hbz.symm
   exact h4.1
  subst hz3
  simpa using h3
theorem opt_of_reads {W : World} (h : VarReads Tryz.prog W "internal/strconv.optimize" Rows.laid_internal_strconv_optimize) : W.cell? ⟨7, 0, none⟩ = some (.bool true) := by
 obtain ⟨g, t, cs, fuel, p, hg, hty, hvar, hd⟩ := h
 obtain rfl := Option.some.inj ((show Tryz.prog.globalNamed "internal/strconv.optimize" = some 7 by kernel_rfl).symm.trans hg)
 obtain rfl := Option.some.inj ((show (Tryz.prog.globals[7]?).map (·.type) = some 4 by kernel_rfl).symm.trans hty)
 have := trod_bool1 Tryz.underlying4 hd
 rw [World.var?_cell hg hvar 0, ← Array.getElem?_toList, this]
 rfl
def floatData (l : List Nat) : DataW Unit := .slice (l.map fun x => .lit (.float .f64 x)) []
theorem fslice_of_reads {W : World} {name : String} {g : Nat} {t e : TypeId} {l : List Nat} (hn : Tryz.prog.globalNamed name = some g) (hy : (Tryz.prog.globals[g]?).map (·.type) = some t)
 (ht : Tryz.prog.underlying t = some (.slice e)) (he : Tryz.prog.underlying e = some (.float .f64)) (hc : Tryz.prog.cellsOf e = 1) (hl : 0 < l.length) (h : VarReads Tryz.prog W name (floatData l)) :
 ∃ R o cap, W.cell? ⟨g, 0, none⟩ = some (.slice (some ⟨R, o, none⟩) l.length cap) ∧ ∀ i, i < l.length → W.cell? ⟨R, o + i, none⟩ = some (.float .f64 (l.getD i 0)) := by
 obtain ⟨g', t', cs, fuel, p, hg, hty, hvar, hd⟩ := h
 obtain rfl := Option.some.inj (hn.symm.trans hg)
 obtain rfl := Option.some.inj (hy.symm.trans hty)
 rcases DataW.trod_slice ht hd with ⟨_, hx⟩ | ⟨a, len, cap, el, rs, m, rfl, hcs, hx, _, hlc, _, hel, helem, hsp, _⟩
 · cases hx
 have e0 := congrArg Prod.fst hx
 simp only [floatData, DataW.slice.injEq] at e0
 obtain ⟨eE, eR⟩ := e0
 have hlen : len = l.length := by
  have := congrArg List.length eE
  simp at this
  omega
 have hcell : ∀ i, i < l.length → W.cell? (a.add i) = some (.float .f64 (l.getD i 0)) := by
  intro i hi
  have h1 := helem i (by omega)
  rw [hc] at h1
  obtain ⟨b, hb⟩ : ∃ b, el[i]? = some b := ⟨el[i]'(by omega), List.getElem?_eq_getElem (by omega)⟩
  rw [hb] at h1
  obtain ⟨ce, hce, hte⟩ := Option.bind_eq_some_iff.1 h1
  have hb1 : b.1 = .lit (.float .f64 (l.getD i 0)) := by
   have := congrArg (·[i]?) eE
   simp [hb, hi] at this
   have e2 : l.getD i 0 = l[i] := by simp [List.getD, List.getElem?_eq_getElem hi]
   rw [e2]
   exact this.symm
  obtain ⟨b1, b2⟩ := b
  simp only at hb1
  subst hb1
  have hz := trod_float1 he hte
  obtain ⟨_, _, hcc⟩ := World.cells?_some hce
  have := hcc 0 (by omega)
  rw [hz] at this
  simp only [Nat.mul_one] at this
  have e1 : (a.add i).add 0 = a.add i := by simp [Addr.add]
  rw [e1] at this
  rw [this]
  rfl
 obtain ⟨R, o, sR⟩ := a
 obtain rfl : sR = none := by
  have h00 := hcell 0 hl
  have : (Addr.add ⟨R, o, sR⟩ 0) = ⟨R, o, sR⟩ := by simp [Addr.add]
  rw [this] at h00
  exact Go.Proofs.cell_spot h00
 refine ⟨R, o, cap, ?_, fun j hj => ?_⟩
 · rw [World.var?_cell hg hvar 0, ← Array.getElem?_toList, hcs, hlen]
   rfl
 · have := hcell j hj
   rwa [Addr.add_lit] at this
theorem Wit.flt_of {W : World} (h : laidMet Tryz.prog Rows.parserNestsRow.laid W) : FltFacts W where
 mant := mant_of_reads (laidMet.reads h (.tail _ (.tail _ (.tail _ (.head _)))))
 opt := opt_of_reads (laidMet.reads h (.tail _ (.tail _ (.tail _ (.tail _ (.head _))))))
 fpow := fslice_of_reads (g := 11) (t := 219) (e := 117) (l := fpow10) (by kernel_rfl) (by kernel_rfl) Tryz.underlying219 Tryz.underlying117 (by kernel_rfl) (by decide)
  (laidMet.reads h (.tail _ (.tail _ (.tail _ (.tail _ (.tail _ (.tail _ (.head _))))))))
end Go.Proofs.YtmlclgkhnekmnaaGreatDoor
