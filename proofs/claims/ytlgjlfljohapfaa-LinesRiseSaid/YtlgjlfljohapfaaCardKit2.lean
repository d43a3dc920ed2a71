/-
  FOR CARDS: a struct of two structs of two ints, and an array of two ints, opened. No condition but those that each theorem says.
-/
import Derived.Test.YtlgjlfljohapfaaCardKit
import Derived.Lib.SmallJoins
import Derived.OpenShut
namespace Go.Proofs.Ytlgjlfljohapfaa
open Go.ChangeShapes Go.WideShapes Go.RowKit Go.Joins

theorem int_of {H : Type} {enc : TypeId × Value → H} {P : Program} {w : World} {base : Nat} {sp : Nat → Bool} {held : Bool} {t : TypeId} {k : IntKind} {n : Nat} {c : Value} {y : DataW H × List MemPlace} (ht : P.underlying t = some (.int k)) (h : DataW.trod enc P w base sp held n t [c] = some y) : ∃ a : Int, c = .int k a ∧ (Lit.int k a).wf = true := by
  obtain ⟨a, e, _, wa⟩ := DataW.trod_int ht h
  simp at e
  exact ⟨a, e, wa⟩
theorem pos_of {H : Type} {enc : TypeId × Value → H} {P : Program} {w : World} {base : Nat} {sp : Nat → Bool} {held : Bool} {t : TypeId} {g0 g1 : Field} {n : Nat} {c0 c1 : Value} {y : DataW H × List MemPlace} (ht : P.underlying t = some (.struct #[g0, g1])) (q0 : g0.offset = 0) (q1 : g1.offset = 1) (h0 : P.underlying g0.type = some (.int .i64)) (h1 : P.underlying g1.type = some (.int .i64)) (k0 : P.cellsOf g0.type = 1) (k1 : P.cellsOf g1.type = 1)
    (h : DataW.trod enc P w base sp held n t [c0, c1] = some y) : ∃ a b : Int, c0 = .int .i64 a ∧ c1 = .int .i64 b ∧ (Lit.int .i64 a).wf = true ∧ (Lit.int .i64 b).wf = true := by
  obtain ⟨y0, y1, m, _, _, e0, e1⟩ := trod_struct2 ht h
  rw [q0, k0] at e0
  rw [q1, k1] at e1
  obtain ⟨a, ra, wa⟩ := int_of h0 e0
  obtain ⟨b, rb, wb⟩ := int_of h1 e1
  exact ⟨a, b, ra, rb, wa, wb⟩
theorem open_range {H : Type} {enc : TypeId × Value → H} {P : Program} {w : World} {base b0 : Nat} {sp : Nat → Bool} {held : Bool} {r : Reach} {t : TypeId} {f0 f1 g0 g1 : Field} {v : Value} {d : DataW H} {ps : List MemPlace}
    (ht : P.underlying t = some (.struct #[f0, f1])) (hC : P.cellsOf t = 4) (o0 : f0.offset = 0) (o1 : f1.offset = 2) (hp0 : P.underlying f0.type = some (.struct #[g0, g1])) (hp1 : P.underlying f1.type = some (.struct #[g0, g1])) (hc0 : P.cellsOf f0.type = 2) (hc1 : P.cellsOf f1.type = 2)
    (q0 : g0.offset = 0) (q1 : g1.offset = 1) (h0 : P.underlying g0.type = some (.int .i64)) (h1 : P.underlying g1.type = some (.int .i64)) (k0 : P.cellsOf g0.type = 1) (k1 : P.cellsOf g1.type = 1)
    (hv : Value.okWide P w r b0 t v) (h : DataW.Trod enc P w base sp held t v d ps) :
    ∃ a b c e : Int, v = .agg #[.int .i64 a, .int .i64 b, .int .i64 c, .int .i64 e] ∧ (Lit.int .i64 a).wf = true ∧ (Lit.int .i64 b).wf = true ∧ (Lit.int .i64 c).wf = true ∧ (Lit.int .i64 e).wf = true := by
  obtain ⟨cs, rfl, hsz⟩ := okWide_struct ht hv
  obtain ⟨c0, c1, c2, c3, rfl⟩ := array4 (hsz.trans hC)
  obtain ⟨fuel, hf⟩ := h
  obtain ⟨y0, y1, n, _, _, e0, e1⟩ := trod_struct2 ht hf
  rw [o0, hc0] at e0
  rw [o1, hc1] at e1
  obtain ⟨a, b, ra, rb, wa, wb⟩ := pos_of hp0 q0 q1 h0 h1 k0 k1 (by simpa [Value.cells] using e0)
  obtain ⟨c, e, rc, re, wc, we⟩ := pos_of hp1 q0 q1 h0 h1 k0 k1 (by simpa [Value.cells] using e1)
  subst ra rb rc re
  exact ⟨a, b, c, e, rfl, wa, wb, wc, we⟩
theorem okWide_array {P : Program} {w : World} {r : Reach} {base n : Nat} {t e : TypeId} {v : Value} (ht : P.underlying t = some (.array n e)) (h : Value.okWide P w r base t v) : ∃ cs, v = .agg cs ∧ cs.size = P.cellsOf t := by
  simp only [Value.okWide, ht] at h
  obtain ⟨cs, h1, h2, _⟩ := h
  exact ⟨cs, h1, h2⟩
theorem open_arr2 {H : Type} {enc : TypeId × Value → H} {P : Program} {w : World} {base b0 : Nat} {sp : Nat → Bool} {held : Bool} {r : Reach} {t e : TypeId} {k : IntKind} {v : Value} {d : DataW H} {ps : List MemPlace}
    (ht : P.underlying t = some (.array 2 e)) (he : P.underlying e = some (.int k)) (hC : P.cellsOf t = 2) (hc : P.cellsOf e = 1)
    (hv : Value.okWide P w r b0 t v) (h : DataW.Trod enc P w base sp held t v d ps) :
    ∃ a b : Int, v = .agg #[.int k a, .int k b] ∧ (Lit.int k a).wf = true ∧ (Lit.int k b).wf = true := by
  obtain ⟨cs, rfl, hsz⟩ := okWide_array ht hv
  obtain ⟨c0, c1, rfl⟩ := array2 (hsz.trans hC)
  obtain ⟨fuel, hf⟩ := h
  obtain ⟨xs, m, _, _, _, hl, hx⟩ := DataW.trod_array ht hf
  match xs, hl with
  | [y0, y1], _ =>
    have e0 := hx 0 (by omega)
    have e1 := hx 1 (by omega)
    rw [hc] at e0 e1
    obtain ⟨a, ra, wa⟩ := int_of (c := c0) he (by simpa [Value.cells] using e0)
    obtain ⟨b, rb, wb⟩ := int_of (c := c1) he (by simpa [Value.cells] using e1)
    subst ra rb
    exact ⟨a, b, rfl, wa, wb⟩
end Go.Proofs.Ytlgjlfljohapfaa
