/-
  WHAT THE ROWS' LIST OF PACKAGE-LEVEL VARIABLES SAYS OF A WORLD, cell by cell, as far as the walks of this seat read it, and that new memory leaves it as it is. No condition beside the list.
-/
import Derived.Test.YtlinoncoanpcdaaGreatDoorRows
import Derived.Lib.LaidTab
import Derived.Lib.LaidU8
import Derived.Lib.LaidPrint
import Derived.Lib.ItoaNum
import Derived.WalkSmall
import Derived.Laws.Cover2
import Derived.ProofKit
namespace Go.Proofs.YtlinoncoanpcdaaGreatDoor
open Go.Lib Go.RowKit

/-- Go's table of the places of a lone bit. -/
def bruijn64 : List Int := [0, 1, 56, 2, 57, 49, 28, 3, 61, 58, 42, 50, 38, 29, 17, 4, 62, 47, 59, 36, 45, 43, 51, 22, 53, 39, 33, 30, 24, 18, 12, 5, 63, 55, 48, 27, 60, 41, 37, 16, 46, 35, 44, 21, 52, 32, 23, 11, 54, 26, 40, 15, 34, 20, 31, 10, 25, 14, 19, 9, 13, 8, 7, 6]
/-- Powers of ten, as floats' bits. -/
def fpow10 : List Nat := match (Rows.laid_internal_strconv_float64pow10 : DataW Unit) with
  | .slice l _ => l.map fun | .lit (.float _ n) => n | _ => 0
  | _ => []

/-- A variable that is an array of integers and reads as a table: it is that table. -/
theorem tabIs_of_reads {P : Program} {W : World} {name : String} {k : IntKind} {zs : List Int} {g : Nat} {t e : TypeId} {n : Nat}
    (hg : P.globalNamed name = some g) (hty : (P.globals[g]?).map (·.type) = some t) (ht : P.underlying t = some (.array n e)) (he : P.underlying e = some (.int k)) (hce : P.cellsOf e = 1) (hct : P.cellsOf t = n)
    (h : VarReads P W name (tabData k zs)) : TabIs P W name k zs := by
  obtain ⟨g', t', cs, fuel, p, hg', ht', hvar, hd⟩ := h
  obtain rfl := Option.some.inj (hg.symm.trans hg')
  obtain rfl := Option.some.inj (hty.symm.trans ht')
  unfold TabIs
  rw [hvar, ← cells_of_tab ht he hce hct hd]

/-- What a world says of the variables that the walks read. -/
structure Facts (W : World) : Prop where
  pow10 : TabIs Tryz.prog W "internal/strconv.uint64pow10" .u64 Lib.pow10Tab
  bruijn : TabIs Tryz.prog W "math/bits.deBruijn64tab" .u8 bruijn64
  mant : W.cell? ⟨6, 0, none⟩ = some (.int .u64 52)
  opt : W.cell? ⟨5, 0, none⟩ = some (.bool true)
  fpow : ∃ R o cap, W.cell? ⟨10, 0, none⟩ = some (.slice (some ⟨R, o, none⟩) 23 cap) ∧ ∀ i, i < 23 → W.cell? ⟨R, o + i, none⟩ = some (.float .f64 (fpow10.getD i 0))

theorem trod_bool1 {H : Type} {enc : TypeId × Value → H} {P : Program} {w : World} {base fuel : Nat} {sp : Nat → Bool} {held : Bool} {t : TypeId} {cs : List Value} {b : Bool} {p : List MemPlace}
    (ht : P.underlying t = some .bool) (h : DataW.trod enc P w base sp held fuel t cs = some (.lit (.bool b), p)) : cs = [.bool b] := by
  cases fuel with
  | zero => simp [DataW.trod] at h
  | succ n =>
    unfold DataW.trod at h
    rw [ht] at h
    split at h <;> simp_all
theorem trod_float1 {H : Type} {enc : TypeId × Value → H} {P : Program} {w : World} {base fuel : Nat} {sp : Nat → Bool} {held : Bool} {t : TypeId} {cs : List Value} {k : FloatKind} {b : Nat} {p : List MemPlace}
    (ht : P.underlying t = some (.float k)) (h : DataW.trod enc P w base sp held fuel t cs = some (.lit (.float k b), p)) : cs = [.float k b] := by
  cases fuel with
  | zero => simp [DataW.trod] at h
  | succ n =>
    unfold DataW.trod at h
    rw [ht] at h
    split at h <;> simp_all

theorem mant_of_reads {W : World} (h : VarReads Tryz.prog W "internal/strconv.float64info" Rows.laid_internal_strconv_float64info) : W.cell? ⟨6, 0, none⟩ = some (.int .u64 52) := by
  obtain ⟨g, t, cs, fuel, p, hg, hty, hvar, hd⟩ := h
  obtain rfl := Option.some.inj ((show Tryz.prog.globalNamed "internal/strconv.float64info" = some 6 by kernel_rfl).symm.trans hg)
  obtain rfl := Option.some.inj ((show (Tryz.prog.globals[6]?).map (·.type) = some 155 by kernel_rfl).symm.trans hty)
  obtain ⟨xs, n, rfl, hx, hl, hxl, hall⟩ := DataW.trod_struct Tryz.underlying155 hd
  have h0 := hall 0 _ rfl
  have e0 := congrArg Prod.fst hx
  simp only [Rows.laid_internal_strconv_float64info, DataW.agg.injEq] at e0
  have e1 := congrArg (·[0]?) e0
  simp only [List.getElem?_map] at e1
  cases hx0 : xs[0]? with
  | none => rw [hx0] at e1; simp at e1
  | some b =>
    rw [hx0] at e1 h0
    have e1 := Option.some.inj e1
    obtain ⟨b1, b2⟩ := b
    subst e1
    obtain ⟨z, hz, hbz, _⟩ := DataW.trod_int (show Tryz.prog.underlying 91 = some (.int .u64) by kernel_rfl) h0
    rw [World.var?_cell hg hvar 0]
    have c1 : Tryz.prog.cellsOf 91 = 1 := by kernel_rfl
    have hz2 : (cs.toList.drop 0).take (Tryz.prog.cellsOf 91) = [.int .u64 z] := hz
    rw [c1, List.drop_zero] at hz2
    have h3 := congrArg (·[0]?) hz2
    simp only [List.getElem?_take, List.getElem?_cons_zero] at h3
    have hz3 : z = 52 := by
      have h4 : z = 52 ∧ b2 = [] := by simpa using hbz.symm
      exact h4.1
    subst hz3
    simpa using h3

theorem opt_of_reads {W : World} (h : VarReads Tryz.prog W "internal/strconv.optimize" Rows.laid_internal_strconv_optimize) : W.cell? ⟨5, 0, none⟩ = some (.bool true) := by
  obtain ⟨g, t, cs, fuel, p, hg, hty, hvar, hd⟩ := h
  obtain rfl := Option.some.inj ((show Tryz.prog.globalNamed "internal/strconv.optimize" = some 5 by kernel_rfl).symm.trans hg)
  obtain rfl := Option.some.inj ((show (Tryz.prog.globals[5]?).map (·.type) = some 4 by kernel_rfl).symm.trans hty)
  have := trod_bool1 Tryz.underlying4 hd
  rw [World.var?_cell hg hvar 0, ← Array.getElem?_toList, this]
  rfl

def floatData (l : List Nat) : DataW Unit := .slice (l.map fun x => .lit (.float .f64 x)) []
theorem fslice_of_reads {W : World} {name : String} {g : Nat} {t e : TypeId} {l : List Nat} (hn : Tryz.prog.globalNamed name = some g) (hy : (Tryz.prog.globals[g]?).map (·.type) = some t)
    (ht : Tryz.prog.underlying t = some (.slice e)) (he : Tryz.prog.underlying e = some (.float .f64)) (hc : Tryz.prog.cellsOf e = 1) (hl : 0 < l.length) (h : VarReads Tryz.prog W name (floatData l)) :
    ∃ R o cap, W.cell? ⟨g, 0, none⟩ = some (.slice (some ⟨R, o, none⟩) l.length cap) ∧ ∀ i, i < l.length → W.cell? ⟨R, o + i, none⟩ = some (.float .f64 (l.getD i 0)) := by
  obtain ⟨g', t', cs, fuel, p, hg, hty, hvar, hd⟩ := h
  obtain rfl := Option.some.inj (hn.symm.trans hg)
  obtain rfl := Option.some.inj (hy.symm.trans hty)
  rcases DataW.trod_slice ht hd with ⟨_, hx⟩ | ⟨a, len, cap, el, rs, m, rfl, hcs, hx, _, hlc, _, hel, helem, hsp, _⟩
  · cases hx
  have e0 := congrArg Prod.fst hx
  simp only [floatData, DataW.slice.injEq] at e0
  obtain ⟨eE, eR⟩ := e0
  have hlen : len = l.length := by
    have := congrArg List.length eE
    simp at this
    omega
  have hcell : ∀ i, i < l.length → W.cell? (a.add i) = some (.float .f64 (l.getD i 0)) := by
    intro i hi
    have h1 := helem i (by omega)
    rw [hc] at h1
    obtain ⟨b, hb⟩ : ∃ b, el[i]? = some b := ⟨el[i]'(by omega), List.getElem?_eq_getElem (by omega)⟩
    rw [hb] at h1
    obtain ⟨ce, hce, hte⟩ := Option.bind_eq_some_iff.1 h1
    have hb1 : b.1 = .lit (.float .f64 (l.getD i 0)) := by
      have := congrArg (·[i]?) eE
      simp [hb, hi] at this
      have e2 : l.getD i 0 = l[i] := by simp [List.getD, List.getElem?_eq_getElem hi]
      rw [e2]
      exact this.symm
    obtain ⟨b1, b2⟩ := b
    simp only at hb1
    subst hb1
    have hz := trod_float1 he hte
    obtain ⟨_, _, hcc⟩ := World.cells?_some hce
    have := hcc 0 (by omega)
    rw [hz] at this
    simp only [Nat.mul_one] at this
    have e1 : (a.add i).add 0 = a.add i := by simp [Addr.add]
    rw [e1] at this
    rw [this]
    rfl
  obtain ⟨R, o, sR⟩ := a
  obtain rfl : sR = none := by
    have h00 := hcell 0 hl
    have : (Addr.add ⟨R, o, sR⟩ 0) = ⟨R, o, sR⟩ := by simp [Addr.add]
    rw [this] at h00
    exact Go.Proofs.cell_spot h00
  refine ⟨R, o, cap, ?_, fun j hj => ?_⟩
  · rw [World.var?_cell hg hvar 0, ← Array.getElem?_toList, hcs, hlen]
    rfl
  · have := hcell j hj
    rwa [Addr.add_lit] at this

theorem facts_of {W : World} (h : laidMet Tryz.prog Rows.numRingRow.laid W) : Facts W where
  pow10 := tabIs_of_reads (g := 3) (t := 138) (e := 30) (n := 20) (by kernel_rfl) (by kernel_rfl) Tryz.underlying138 Tryz.underlying30 (by kernel_rfl) (by kernel_rfl)
    (laidMet.reads h (show (_, Rows.laid_internal_strconv_uint64pow10) ∈ _ from .tail _ (.tail _ (.tail _ (.tail _ (.tail _ (.tail _ (.tail _ (.tail _ (.head _))))))))))
  bruijn := tabIs_of_reads (g := 12) (t := 189) (e := 5) (n := 64) (by kernel_rfl) (by kernel_rfl) Tryz.underlying189 Tryz.underlying5 (by kernel_rfl) (by kernel_rfl)
    (laidMet.reads h (show (_, Rows.laid_math_bits_deBruijn64tab) ∈ _ from .tail _ (.head _)))
  mant := mant_of_reads (laidMet.reads h (.tail _ (.tail _ (.tail _ (.head _)))))
  opt := opt_of_reads (laidMet.reads h (.tail _ (.tail _ (.tail _ (.tail _ (.head _))))))
  fpow := fslice_of_reads (g := 10) (t := 186) (e := 27) (l := fpow10) (by kernel_rfl) (by kernel_rfl) Tryz.underlying186 Tryz.underlying27 (by kernel_rfl) (by decide)
    (laidMet.reads h (show (_, Rows.laid_internal_strconv_float64pow10) ∈ _ from .tail _ (.tail _ (.tail _ (.tail _ (.tail _ (.tail _ (.head _))))))))

theorem lt_of_cell {W : World} {b o : Nat} {v : Value} (h : W.cell? ⟨b, o, none⟩ = some v) : b < W.heap.size := by
  unfold World.cell? at h
  by_cases hb : b < W.heap.size
  · exact hb
  · simp [Array.getElem?_eq_none (Nat.le_of_not_lt hb)] at h
theorem Facts.below {W W' : World} (h : Facts W) (hb : Below W.heap.size W W') : Facts W' := by
  obtain ⟨R, o, cap, h10, hrow⟩ := h.fpow
  have l10 : 10 < W.heap.size := lt_of_cell h10
  have l12 : 12 < W.heap.size := lt_of_cell (h.bruijn.cell (by kernel_rfl) 0 (by decide))
  have lR : R < W.heap.size := lt_of_cell (hrow 0 (by decide))
  exact ⟨var?_below hb (g := 3) (by kernel_rfl) (show 3 < _ by omega) h.pow10, var?_below hb (g := 12) (by kernel_rfl) l12 h.bruijn, by rw [hb.cell (p := ⟨6, 0, none⟩) (by show 6 < _; omega)]; exact h.mant,
    by rw [hb.cell (p := ⟨5, 0, none⟩) (by show 5 < _; omega)]; exact h.opt, R, o, cap, by rw [hb.cell (p := ⟨10, 0, none⟩) l10]; exact h10, fun i hi => by rw [hb.cell (p := ⟨R, o + i, none⟩) lR]; exact hrow i hi⟩
end Go.Proofs.YtlinoncoanpcdaaGreatDoor
