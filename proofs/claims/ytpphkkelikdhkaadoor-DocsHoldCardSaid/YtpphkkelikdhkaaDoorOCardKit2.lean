/-
  FOR CARDS: a slice of acts opened (open_acts). No condition but those that each theorem says.
-/
import Derived.Test.YtpphkkelikdhkaaDoorOCardKit
import Derived.Test.YtpphkkelikdhkaaDoorOLarge
namespace Go.Proofs.YtpphkkelikdhkaaDoor
open Go.ChangeShapes Go.WideShapes Go.RowKit

/-- Of a struct in a row of structs, whose fields have one cell each: a field's cell, and that it reads. -/
theorem row_field {H : Type} {enc : TypeId × Value → H} {P : Program} {w : World} {base : Nat} {spare : Nat → Bool} {held : Bool} {e : TypeId} {fs : Array Field} (he : P.underlying e = some (.struct fs)) (hone : Deep.oneCellFields P fs = true) (hC : P.cellsOf e = fs.size) {a : Addr} {i n : Nat} {x : DataW H × List MemPlace} {cs : List Value}
    (hc : w.cells? base (a.add (i * P.cellsOf e)) (P.cellsOf e) = some cs) (ht : DataW.trod enc P w base spare held n e cs = some x) {j : Nat} {f : Field} (hj : fs[j]? = some f) :
    ∃ (v : Value) (y : DataW H × List MemPlace) (m : Nat), w.cell? (a.add (i * fs.size + j)) = some v ∧ DataW.trod enc P w base spare held m f.type [v] = some y := by
  obtain ⟨xs, m, _, _, hlen, hxl, hf⟩ := DataW.trod_struct he ht
  obtain ⟨_, hcl, hat⟩ := World.cells?_some hc
  obtain ⟨ho, hk⟩ := Deep.hone_of hone j f hj
  have hjl : j < fs.size := (Array.getElem?_eq_some_iff.1 hj).1
  have h1 := hf j f hj
  have hl : j < cs.length := by omega
  rw [ho, hk, List.drop_eq_getElem_cons hl, List.take_succ_cons, List.take_zero, List.getElem?_eq_getElem (show j < xs.length by omega)] at h1
  refine ⟨cs[j], xs[j], m, ?_, h1⟩
  have h2 := hat j (by omega)
  rw [Go.Deep.add_add, hC, List.getElem?_eq_getElem hl] at h2
  exact h2
theorem slice_val {H : Type} {enc : TypeId × Value → H} {w : World} {base : Nat} {sp : Nat → Bool} {held : Bool} {fuel : Nat} {v : Value} {x : DataW H × List MemPlace} (hf : DataW.trod enc Tryd.prog w base sp held fuel 26 [v] = some x) : ∃ a0 len cap, v = .slice a0 len cap := by
  rcases Deep.open_slice Tryd.underlying26 hf with ⟨hcs, _⟩ | ⟨a, len', cap', m, n, D, Pl, hcs, _⟩
  · simp only [List.cons.injEq, and_true] at hcs
    exact ⟨_, _, _, hcs⟩
  · simp only [List.cons.injEq, and_true] at hcs
    exact ⟨_, _, _, hcs⟩
section
variable {H : Type} {enc : TypeId × Value → H} {w : World} {base : Nat} {sp : Nat → Bool} {held : Bool}
instance : Inhabited Ac := ⟨⟨0, ⟨#[]⟩, ⟨#[]⟩, 0, 0, none, [], 0, 0⟩⟩
theorem open_acts {fuel : Nat} {a0 : Option Addr} {len cap : Nat} {x : DataW H × List MemPlace} (hf : DataW.trod enc Tryd.prog w base sp held fuel 30 [.slice a0 len cap] = some x) : ∃ L : List Ac, len = L.length ∧ AR w a0 L ∧ (L.length ≤ cap ∧ cap ≤ maxLen) := by
  rcases Deep.open_slice Tryd.underlying30 hf with ⟨hcs, _⟩ | ⟨a, len', cap', m, n, D, Pl, hcs, _, hl, hcm, hm, _, hx⟩
  · simp only [List.cons.injEq, Value.slice.injEq, and_true] at hcs
    exact ⟨[], hcs.2.1, fun hp => absurd hp (by simp), Nat.zero_le _, by rw [hcs.2.2]; exact Nat.zero_le _⟩
  · simp only [List.cons.injEq, Value.slice.injEq, and_true] at hcs
    obtain ⟨rfl, rfl, rfl⟩ := hcs
    have hlm : len ≤ m := by rw [hm]; split <;> omega
    have each : ∀ i, i < m → ∃ s : Ac, w.cell? (a.add (i * 7 + 0)) = some (.int .i64 s.o) ∧ w.cell? (a.add (i * 7 + 1)) = some (.string s.u) ∧ w.cell? (a.add (i * 7 + 2)) = some (.string s.t) ∧ w.cell? (a.add (i * 7 + 3)) = some (.int .i64 s.m) ∧ w.cell? (a.add (i * 7 + 4)) = some (.int .i64 s.v) ∧ w.cell? (a.add (i * 7 + 5)) = some (.slice s.A s.L.length s.c) ∧ w.cell? (a.add (i * 7 + 6)) = some (.int .u8 s.f) ∧ CR w s.A s.L ∧ s.L.length ≤ s.c := fun i hi => by
      obtain ⟨cs, hc, ht⟩ := hx i hi
      obtain ⟨v0, y0, m0, h0, t0⟩ := row_field Tryd.underlying29 (by kernel_rfl) (by kernel_rfl) hc ht (j := 0) rfl
      obtain ⟨v1, y1, m1, h1, t1⟩ := row_field Tryd.underlying29 (by kernel_rfl) (by kernel_rfl) hc ht (j := 1) rfl
      obtain ⟨v2, y2, m2, h2, t2⟩ := row_field Tryd.underlying29 (by kernel_rfl) (by kernel_rfl) hc ht (j := 2) rfl
      obtain ⟨v3, y3, m3, h3, t3⟩ := row_field Tryd.underlying29 (by kernel_rfl) (by kernel_rfl) hc ht (j := 3) rfl
      obtain ⟨v4, y4, m4, h4, t4⟩ := row_field Tryd.underlying29 (by kernel_rfl) (by kernel_rfl) hc ht (j := 4) rfl
      obtain ⟨v5, y5, m5, h5, t5⟩ := row_field Tryd.underlying29 (by kernel_rfl) (by kernel_rfl) hc ht (j := 5) rfl
      obtain ⟨v6, y6, m6, h6, t6⟩ := row_field Tryd.underlying29 (by kernel_rfl) (by kernel_rfl) hc ht (j := 6) rfl
      obtain ⟨o, e0, _, w0⟩ := DataW.trod_int Tryd.underlying3 t0
      obtain ⟨u, e1, _, w1⟩ := DataW.trod_string Tryd.underlying9 t1
      obtain ⟨t, e2, _, w2⟩ := DataW.trod_string Tryd.underlying9 t2
      obtain ⟨q, e3, _, w3⟩ := DataW.trod_int Tryd.underlying3 t3
      obtain ⟨v, e4, _, w4⟩ := DataW.trod_int Tryd.underlying2 t4
      obtain ⟨f, e6, _, w6⟩ := DataW.trod_int Tryd.underlying5 t6
      simp only [List.cons.injEq, and_true] at e0 e1 e2 e3 e4 e6
      subst e0 e1 e2 e3 e4 e6
      obtain ⟨A2, n2, c2, rfl⟩ := slice_val t5
      obtain ⟨P, rfl, hp, hz⟩ := open_chgs t5
      exact ⟨⟨o, u, t, q, v, A2, P, c2, f⟩, h0, h1, h2, h3, h4, h5, h6, hp, hz.1⟩
    obtain ⟨S, hS⟩ := Deep.choose_lt each
    refine ⟨(List.range len).map S, by simp, fun hp => ?_, by simpa using hl, hcm⟩
    have hlen0 : 0 < len := by simpa using hp
    have ha := addr_at (show w.cell? (a.add 0) = some _ from (hS 0 (by omega)).1)
    refine ⟨a.block, a.off, by rw [← ha], fun j s hj => ?_⟩
    rw [List.getElem?_map] at hj
    by_cases hjl : j < len
    · rw [List.getElem?_range hjl] at hj
      obtain rfl : S j = s := by simpa using hj
      obtain ⟨c0, c1, c2, c3, c4, c5, c6, c7, c8⟩ := hS j (by omega)
      rw [ha] at c0 c1 c2 c3 c4 c5 c6
      simp only [Addr.add_lit] at c0 c1 c2 c3 c4 c5 c6
      rw [← Nat.add_assoc] at c0 c1 c2 c3 c4 c5 c6
      exact ⟨⟨c0, c1, c2, c3, c4, c5, c6⟩, c7, c8⟩
    · rw [List.getElem?_eq_none (by simp; omega)] at hj
      cases hj
theorem open_actsT {a0 : Option Addr} {len cap : Nat} {d : DataW H} {ps : List MemPlace} (h : DataW.Trod enc Tryd.prog w base sp held 30 (.slice a0 len cap) d ps) : ∃ L : List Ac, len = L.length ∧ AR w a0 L ∧ (L.length ≤ cap ∧ cap ≤ maxLen) := by
  obtain ⟨fuel, hf⟩ := h
  have hf' : DataW.trod enc Tryd.prog w base sp held fuel 30 [.slice a0 len cap] = some (d, ps) := hf
  exact open_acts hf'
end
end Go.Proofs.YtpphkkelikdhkaaDoor
