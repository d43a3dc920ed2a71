/-
  WHAT THE ROWS' LIST OF PACKAGE-LEVEL VARIABLES SAYS OF A WORLD, as far as the closed floats' walks read it (FltFacts), beside what the words' walks read. No condition beside the list.
-/
import Derived.Test.YtfjdhnfghdnmoaaGreatDoorLFacts
import Derived.Test.YtfjdhnfghdnmoaaGreatDoorLFltK
namespace Go.Proofs.YtfjdhnfghdnmoaaGreatDoor
open Go.ChangeShapes Go.WideShapes Go.ChangeAt Go.RowKit Go.Lib

theorem trod_bool1 {H : Type} {enc : TypeId × Value → H} {P : Program} {w : World} {base fuel : Nat} {sp : Nat → Bool} {held : Bool} {t : TypeId} {cs : List Value} {b : Bool} {p : List MemPlace}
    (ht : P.underlying t = some .bool) (h : DataW.trod enc P w base sp held fuel t cs = some (.lit (.bool b), p)) : cs = [.bool b] := by
  cases fuel with
  | zero => simp [DataW.trod] at h
  | succ n =>
    unfold DataW.trod at h
    rw [ht] at h
    split at h <;> simp_all
theorem trod_float1 {H : Type} {enc : TypeId × Value → H} {P : Program} {w : World} {base fuel : Nat} {sp : Nat → Bool} {held : Bool} {t : TypeId} {cs : List Value} {k : FloatKind} {b : Nat} {p : List MemPlace}
    (ht : P.underlying t = some (.float k)) (h : DataW.trod enc P w base sp held fuel t cs = some (.lit (.float k b), p)) : cs = [.float k b] := by
  cases fuel with
  | zero => simp [DataW.trod] at h
  | succ n =>
    unfold DataW.trod at h
    rw [ht] at h
    split at h <;> simp_all

theorem mant_of_reads {W : World} (h : VarReads Tryz.prog W "internal/strconv.float64info" Rows.laid_internal_strconv_float64info) : W.cell? ⟨8, 0, none⟩ = some (.int .u64 52) := by
  obtain ⟨g, t, cs, fuel, p, hg, hty, hvar, hd⟩ := h
  obtain rfl := Option.some.inj ((show Tryz.prog.globalNamed "internal/strconv.float64info" = some 8 by kernel_rfl).symm.trans hg)
  obtain rfl := Option.some.inj ((show (Tryz.prog.globals[8]?).map (·.type) = some 154 by kernel_rfl).symm.trans hty)
  obtain ⟨xs, n, rfl, hx, hl, hxl, hall⟩ := DataW.trod_struct Tryz.underlying154 hd
  have h0 := hall 0 _ rfl
  have e0 := congrArg Prod.fst hx
  simp only [Rows.laid_internal_strconv_float64info, DataW.agg.injEq] at e0
  have e1 := congrArg (·[0]?) e0
  simp only [List.getElem?_map] at e1
  cases hx0 : xs[0]? with
  | none => rw [hx0] at e1; simp at e1
  | some b =>
    rw [hx0] at e1 h0
    have e1 := Option.some.inj e1
    obtain ⟨b1, b2⟩ := b
    subst e1
    obtain ⟨z, hz, hbz, _⟩ := DataW.trod_int (show Tryz.prog.underlying 61 = some (.int .u64) by kernel_rfl) h0
    rw [World.var?_cell hg hvar 0]
    have c1 : Tryz.prog.cellsOf 61 = 1 := by kernel_rfl
    have hz2 : (cs.toList.drop 0).take (Tryz.prog.cellsOf 61) = [.int .u64 z] := hz
    rw [c1, List.drop_zero] at hz2
    have h3 := congrArg (·[0]?) hz2
    simp only [List.getElem?_take, List.getElem?_cons_zero] at h3
    have hz3 : z = 52 := by
      have h4 : z = 52 ∧ b2 = [] := by simpa using hbz.symm
      exact h4.1
    subst hz3
    simpa using h3

theorem opt_of_reads {W : World} (h : VarReads Tryz.prog W "internal/strconv.optimize" Rows.laid_internal_strconv_optimize) : W.cell? ⟨7, 0, none⟩ = some (.bool true) := by
  obtain ⟨g, t, cs, fuel, p, hg, hty, hvar, hd⟩ := h
  obtain rfl := Option.some.inj ((show Tryz.prog.globalNamed "internal/strconv.optimize" = some 7 by kernel_rfl).symm.trans hg)
  obtain rfl := Option.some.inj ((show (Tryz.prog.globals[7]?).map (·.type) = some 4 by kernel_rfl).symm.trans hty)
  have := trod_bool1 Tryz.underlying4 hd
  rw [World.var?_cell hg hvar 0, ← Array.getElem?_toList, this]
  rfl

def floatData (l : List Nat) : DataW Unit := .slice (l.map fun x => .lit (.float .f64 x)) []
theorem fslice_of_reads {W : World} {name : String} {g : Nat} {t e : TypeId} {l : List Nat} (hn : Tryz.prog.globalNamed name = some g) (hy : (Tryz.prog.globals[g]?).map (·.type) = some t)
    (ht : Tryz.prog.underlying t = some (.slice e)) (he : Tryz.prog.underlying e = some (.float .f64)) (hc : Tryz.prog.cellsOf e = 1) (hl : 0 < l.length) (h : VarReads Tryz.prog W name (floatData l)) :
    ∃ R o cap, W.cell? ⟨g, 0, none⟩ = some (.slice (some ⟨R, o, none⟩) l.length cap) ∧ ∀ i, i < l.length → W.cell? ⟨R, o + i, none⟩ = some (.float .f64 (l.getD i 0)) := by
  obtain ⟨g', t', cs, fuel, p, hg, hty, hvar, hd⟩ := h
  obtain rfl := Option.some.inj (hn.symm.trans hg)
  obtain rfl := Option.some.inj (hy.symm.trans hty)
  rcases DataW.trod_slice ht hd with ⟨_, hx⟩ | ⟨a, len, cap, el, rs, m, rfl, hcs, hx, _, hlc, _, hel, helem, hsp, _⟩
  · cases hx
  have e0 := congrArg Prod.fst hx
  simp only [floatData, DataW.slice.injEq] at e0
  obtain ⟨eE, eR⟩ := e0
  have hlen : len = l.length := by
    have := congrArg List.length eE
    simp at this
    omega
  have hcell : ∀ i, i < l.length → W.cell? (a.add i) = some (.float .f64 (l.getD i 0)) := by
    intro i hi
    have h1 := helem i (by omega)
    rw [hc] at h1
    obtain ⟨b, hb⟩ : ∃ b, el[i]? = some b := ⟨el[i]'(by omega), List.getElem?_eq_getElem (by omega)⟩
    rw [hb] at h1
    obtain ⟨ce, hce, hte⟩ := Option.bind_eq_some_iff.1 h1
    have hb1 : b.1 = .lit (.float .f64 (l.getD i 0)) := by
      have := congrArg (·[i]?) eE
      simp [hb, hi] at this
      have e2 : l.getD i 0 = l[i] := by simp [List.getD, List.getElem?_eq_getElem hi]
      rw [e2]
      exact this.symm
    obtain ⟨b1, b2⟩ := b
    simp only at hb1
    subst hb1
    have hz := trod_float1 he hte
    obtain ⟨_, _, hcc⟩ := World.cells?_some hce
    have := hcc 0 (by omega)
    rw [hz] at this
    simp only [Nat.mul_one] at this
    have e1 : (a.add i).add 0 = a.add i := by simp [Addr.add]
    rw [e1] at this
    rw [this]
    rfl
  obtain ⟨R, o, sR⟩ := a
  obtain rfl : sR = none := by
    have h00 := hcell 0 hl
    have : (Addr.add ⟨R, o, sR⟩ 0) = ⟨R, o, sR⟩ := by simp [Addr.add]
    rw [this] at h00
    exact Go.Proofs.cell_spot h00
  refine ⟨R, o, cap, ?_, fun j hj => ?_⟩
  · rw [World.var?_cell hg hvar 0, ← Array.getElem?_toList, hcs, hlen]
    rfl
  · have := hcell j hj
    rwa [Addr.add_lit] at this

theorem Wit.flt_of {W : World} (h : laidMet Tryz.prog Rows.lexerTokensRow.laid W) : FltFacts W where
  mant := mant_of_reads (laidMet.reads h (.tail _ (.tail _ (.tail _ (.head _)))))
  opt := opt_of_reads (laidMet.reads h (.tail _ (.tail _ (.tail _ (.tail _ (.head _))))))
  fpow := fslice_of_reads (g := 11) (t := 190) (e := 98) (l := fpow10) (by kernel_rfl) (by kernel_rfl) Tryz.underlying190 Tryz.underlying98 (by kernel_rfl) (by decide)
    (laidMet.reads h (.tail _ (.tail _ (.tail _ (.tail _ (.tail _ (.tail _ (.head _))))))))
theorem Wit.facts2_of {W : World} (h : laidMet Tryz.prog Rows.lexerTokensRow.laid W) (hs : W.ShapedOpen Tryz.prog) : Facts W ∧ FltFacts W := ⟨Wit.facts_of h hs, Wit.flt_of h⟩
end Go.Proofs.YtfjdhnfghdnmoaaGreatDoor
