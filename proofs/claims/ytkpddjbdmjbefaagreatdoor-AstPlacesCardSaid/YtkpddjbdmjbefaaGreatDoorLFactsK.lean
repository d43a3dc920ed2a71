import Derived.Test.YtkpddjbdmjbefaaGreatDoorLWit
import Derived.Test.YtkpddjbdmjbefaaGreatDoorLVal
import Derived.OpenShut
import Derived.Test.YtkpddjbdmjbefaaGreatDoorLFltK
namespace Go.Proofs.YtkpddjbdmjbefaaGreatDoor
open Go.ChangeShapes Go.WideShapes Go.ChangeAt Go.RowKit Go.Lib
theorem trod_str1 {H : Type} {enc : TypeId × Value → H} {P : Program} {w : World} {base fuel : Nat} {sp : Nat → Bool} {held : Bool} {t : TypeId} {cs : List Value} {l : List UInt8} {p : List MemPlace}
    (ht : P.underlying t = some .string) (h : DataW.trod enc P w base sp held fuel t cs = some (.lit (.string l), p)) : ∃ s : ByteArray, cs = [.string s] ∧ s.data.toList = l := by
  cases fuel with
  | zero => simp [DataW.trod] at h
  | succ n =>
    unfold DataW.trod at h
    rw [ht] at h
    split at h <;> simp_all
theorem strs_of_reads {P : Program} {W : World} {name : String} {g : Nat} {t e : TypeId} {n : Nat} {l : List (List UInt8)} (hn : P.globalNamed name = some g) (hy : (P.globals[g]?).map (·.type) = some t)
    (ht : P.underlying t = some (.array n e)) (he : P.underlying e = some .string) (hc : P.cellsOf e = 1) (h : VarReads P W name (.agg (l.map fun x => .lit (.string x)))) :
    ∀ (j : Nat) (m : List UInt8), l[j]? = some m → W.cell? ⟨g, j, none⟩ = some (.string ⟨m.toArray⟩) := by
  obtain ⟨g', t', cs, fuel, p, hg, hty, hvar, hd⟩ := h
  obtain rfl := Option.some.inj (hn.symm.trans hg)
  obtain rfl := Option.some.inj (hy.symm.trans hty)
  obtain ⟨xs, m0, rfl, hx, hl, hxl, hall⟩ := DataW.trod_array ht hd
  have e0 := congrArg Prod.fst hx
  simp only [DataW.agg.injEq] at e0
  intro j m hj
  have hjl : j < l.length := (List.getElem?_eq_some_iff.1 hj).1
  have hlen : xs.length = l.length := by
    have := congrArg List.length e0
    simp at this
    omega
  have h1 := hall j (by omega)
  obtain ⟨b, hb⟩ : ∃ b, xs[j]? = some b := ⟨xs[j]'(by omega), List.getElem?_eq_getElem (by omega)⟩
  rw [hb, hc, Nat.mul_one] at h1
  have hb1 : b.1 = .lit (.string m) := by
    have := congrArg (·[j]?) e0
    simp only [List.getElem?_map, hb, hj, Option.map_some, Option.some.injEq] at this
    exact this.symm
  obtain ⟨b1, b2⟩ := b
  simp only at hb1
  subst hb1
  obtain ⟨s, hs, hsm⟩ := trod_str1 he h1
  have hs0 := congrArg (·[0]?) hs
  simp only [List.getElem?_take, List.getElem?_drop, List.getElem?_cons_zero] at hs0
  rw [if_pos (by omega), Nat.add_zero] at hs0
  rw [World.var?_cell hg hvar j, ← Array.getElem?_toList, hs0]
  have : s = ⟨m.toArray⟩ := by
    apply ByteArray.ext
    rw [← hsm]
  rw [this]
theorem marks_data : (Rows.laid_emend_lexer_marks : DataW Unit) = .agg (markB.map fun x => .lit (.string x)) := by kernel_rfl
theorem Wit.facts_of {W : World} (h : laidMet Tryz.prog Rows.astPlacesRow.laid W) (_ : W.ShapedOpen Tryz.prog) : Facts W := by
  refine ⟨?_, ?_, ?_⟩
  · exact utf8Tabs_of_reads Tryz.lays260 Wit.extra
      (by have := laidMet.reads h (show (_, Rows.laid_unicode_utf8_first) ∈ _ from .tail _ (.tail _ (.tail _ (.tail _ (.tail _ (.tail _ (.tail _ (.tail _ (.tail _ (.tail _ (.tail _ (.tail _ (.tail _ (.tail _ (.tail _ (.head _)))))))))))))))); rw [Wit.first_is] at this; exact this)
      (by have := laidMet.reads h (show (_, Rows.laid_unicode_utf8_acceptRanges) ∈ _ from .tail _ (.tail _ (.tail _ (.tail _ (.tail _ (.tail _ (.tail _ (.tail _ (.tail _ (.head _)))))))))); rw [Wit.accept_is] at this; exact this)
  · have := laidMet.reads h (show (_, Rows.laid_emend_lexer_marks) ∈ _ from .tail _ (.tail _ (.tail _ (.tail _ (.tail _ (.tail _ (.tail _ (.tail _ (.tail _ (.tail _ (.tail _ (.tail _ (.head _)))))))))))))
    rw [marks_data] at this
    exact strs_of_reads (by kernel_rfl) (by kernel_rfl) Tryz.underlying109 Tryz.underlying9 (by kernel_rfl) this
  · obtain ⟨a, s, hv, _, _, _⟩ := laid_sentinel h.tail.tail.tail.tail.tail.tail.tail.tail.tail.tail Wit.gR (by kernel_rfl) Tryz.underlying112 Wit.rowErr Tryz.underlying136 Tryz.underlying138 rfl rfl Tryz.underlying9 (by kernel_rfl) (by kernel_rfl)
    exact ⟨_, by rw [World.var?_cell Wit.gR hv 0]; rfl, .inr ⟨_, _, rfl⟩⟩
end Go.Proofs.YtkpddjbdmjbefaaGreatDoor
namespace Go.Proofs.YtkpddjbdmjbefaaGreatDoor
open Go.ChangeShapes Go.WideShapes Go.ChangeAt Go.RowKit Go.Lib
theorem trod_bool1 {H : Type} {enc : TypeId × Value → H} {P : Program} {w : World} {base fuel : Nat} {sp : Nat → Bool} {held : Bool} {t : TypeId} {cs : List Value} {b : Bool} {p : List MemPlace}
    (ht : P.underlying t = some .bool) (h : DataW.trod enc P w base sp held fuel t cs = some (.lit (.bool b), p)) : cs = [.bool b] := by
  cases fuel with
  | zero => simp [DataW.trod] at h
  | succ n =>
    unfold DataW.trod at h
    rw [ht] at h
    split at h <;> simp_all
theorem trod_float1 {H : Type} {enc : TypeId × Value → H} {P : Program} {w : World} {base fuel : Nat} {sp : Nat → Bool} {held : Bool} {t : TypeId} {cs : List Value} {k : FloatKind} {b : Nat} {p : List MemPlace}
    (ht : P.underlying t = some (.float k)) (h : DataW.trod enc P w base sp held fuel t cs = some (.lit (.float k b), p)) : cs = [.float k b] := by
  cases fuel with
  | zero => simp [DataW.trod] at h
  | succ n =>
    unfold DataW.trod at h
    rw [ht] at h
    split at h <;> simp_all
theorem mant_of_reads {W : World} (h : VarReads Tryz.prog W "internal/strconv.float64info" Rows.laid_internal_strconv_float64info) : W.cell? ⟨8, 0, none⟩ = some (.int .u64 52) := by
  obtain ⟨g, t, cs, fuel, p, hg, hty, hvar, hd⟩ := h
  obtain rfl := Option.some.inj ((show Tryz.prog.globalNamed "internal/strconv.float64info" = some 8 by kernel_rfl).symm.trans hg)
  obtain rfl := Option.some.inj ((show (Tryz.prog.globals[8]?).map (·.type) = some 146 by kernel_rfl).symm.trans hty)
  obtain ⟨xs, n, rfl, hx, hl, hxl, hall⟩ := DataW.trod_struct Tryz.underlying146 hd
  have h0 := hall 0 _ rfl
  have e0 := congrArg Prod.fst hx
  simp only [Rows.laid_internal_strconv_float64info, DataW.agg.injEq] at e0
  have e1 := congrArg (·[0]?) e0
  simp only [List.getElem?_map] at e1
  cases hx0 : xs[0]? with
  | none => rw [hx0] at e1; simp at e1
  | some b =>
    rw [hx0] at e1 h0
    have e1 := Option.some.inj e1
    obtain ⟨b1, b2⟩ := b
    subst e1
    obtain ⟨z, hz, hbz, _⟩ := DataW.trod_int (show Tryz.prog.underlying 102 = some (.int .u64) by kernel_rfl) h0
    rw [World.var?_cell hg hvar 0]
    have c1 : Tryz.prog.cellsOf 102 = 1 := by kernel_rfl
    have hz2 : (cs.toList.drop 0).take (Tryz.prog.cellsOf 102) = [.int .u64 z] := hz
    rw [c1, List.drop_zero] at hz2
    have h3 := congrArg (·[0]?) hz2
    simp only [List.getElem?_take, List.getElem?_cons_zero] at h3
    have hz3 : z = 52 := by
      have h4 : z = 52 ∧ b2 = [] := by simpa using hbz.symm
      exact h4.1
    subst hz3
    simpa using h3
theorem opt_of_reads {W : World} (h : VarReads Tryz.prog W "internal/strconv.optimize" Rows.laid_internal_strconv_optimize) : W.cell? ⟨7, 0, none⟩ = some (.bool true) := by
  obtain ⟨g, t, cs, fuel, p, hg, hty, hvar, hd⟩ := h
  obtain rfl := Option.some.inj ((show Tryz.prog.globalNamed "internal/strconv.optimize" = some 7 by kernel_rfl).symm.trans hg)
  obtain rfl := Option.some.inj ((show (Tryz.prog.globals[7]?).map (·.type) = some 4 by kernel_rfl).symm.trans hty)
  have := trod_bool1 Tryz.underlying4 hd
  rw [World.var?_cell hg hvar 0, ← Array.getElem?_toList, this]
  rfl
def floatData (l : List Nat) : DataW Unit := .slice (l.map fun x => .lit (.float .f64 x)) []
theorem fslice_of_reads {W : World} {name : String} {g : Nat} {t e : TypeId} {l : List Nat} (hn : Tryz.prog.globalNamed name = some g) (hy : (Tryz.prog.globals[g]?).map (·.type) = some t)
    (ht : Tryz.prog.underlying t = some (.slice e)) (he : Tryz.prog.underlying e = some (.float .f64)) (hc : Tryz.prog.cellsOf e = 1) (hl : 0 < l.length) (h : VarReads Tryz.prog W name (floatData l)) :
    ∃ R o cap, W.cell? ⟨g, 0, none⟩ = some (.slice (some ⟨R, o, none⟩) l.length cap) ∧ ∀ i, i < l.length → W.cell? ⟨R, o + i, none⟩ = some (.float .f64 (l.getD i 0)) := by
  obtain ⟨g', t', cs, fuel, p, hg, hty, hvar, hd⟩ := h
  obtain rfl := Option.some.inj (hn.symm.trans hg)
  obtain rfl := Option.some.inj (hy.symm.trans hty)
  rcases DataW.trod_slice ht hd with ⟨_, hx⟩ | ⟨a, len, cap, el, rs, m, rfl, hcs, hx, _, hlc, _, hel, helem, hsp, _⟩
  · cases hx
  have e0 := congrArg Prod.fst hx
  simp only [floatData, DataW.slice.injEq] at e0
  obtain ⟨eE, eR⟩ := e0
  have hlen : len = l.length := by
    have := congrArg List.length eE
    simp at this
    omega
  have hcell : ∀ i, i < l.length → W.cell? (a.add i) = some (.float .f64 (l.getD i 0)) := by
    intro i hi
    have h1 := helem i (by omega)
    rw [hc] at h1
    obtain ⟨b, hb⟩ : ∃ b, el[i]? = some b := ⟨el[i]'(by omega), List.getElem?_eq_getElem (by omega)⟩
    rw [hb] at h1
    obtain ⟨ce, hce, hte⟩ := Option.bind_eq_some_iff.1 h1
    have hb1 : b.1 = .lit (.float .f64 (l.getD i 0)) := by
      have := congrArg (·[i]?) eE
      simp [hb, hi] at this
      have e2 : l.getD i 0 = l[i] := by simp [List.getD, List.getElem?_eq_getElem hi]
      rw [e2]
      exact this.symm
    obtain ⟨b1, b2⟩ := b
    simp only at hb1
    subst hb1
    have hz := trod_float1 he hte
    obtain ⟨_, _, hcc⟩ := World.cells?_some hce
    have := hcc 0 (by omega)
    rw [hz] at this
    simp only [Nat.mul_one] at this
    have e1 : (a.add i).add 0 = a.add i := by simp [Addr.add]
    rw [e1] at this
    rw [this]
    rfl
  obtain ⟨R, o, sR⟩ := a
  obtain rfl : sR = none := by
    have h00 := hcell 0 hl
    have : (Addr.add ⟨R, o, sR⟩ 0) = ⟨R, o, sR⟩ := by simp [Addr.add]
    rw [this] at h00
    exact Go.Proofs.cell_spot h00
  refine ⟨R, o, cap, ?_, fun j hj => ?_⟩
  · rw [World.var?_cell hg hvar 0, ← Array.getElem?_toList, hcs, hlen]
    rfl
  · have := hcell j hj
    rwa [Addr.add_lit] at this
theorem Wit.flt_of {W : World} (h : laidMet Tryz.prog Rows.astPlacesRow.laid W) : FltFacts W where
  mant := mant_of_reads (laidMet.reads h (.tail _ (.tail _ (.tail _ (.head _)))))
  opt := opt_of_reads (laidMet.reads h (.tail _ (.tail _ (.tail _ (.tail _ (.head _))))))
  fpow := fslice_of_reads (g := 11) (t := 184) (e := 96) (l := fpow10) (by kernel_rfl) (by kernel_rfl) Tryz.underlying184 Tryz.underlying96 (by kernel_rfl) (by decide)
    (laidMet.reads h (.tail _ (.tail _ (.tail _ (.tail _ (.tail _ (.tail _ (.head _))))))))
end Go.Proofs.YtkpddjbdmjbefaaGreatDoor
