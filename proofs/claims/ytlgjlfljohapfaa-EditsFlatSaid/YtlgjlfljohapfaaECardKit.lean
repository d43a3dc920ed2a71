/-
  FOR CARDS: arguments of any types read as they did behind a call that turns nothing that was there (below_all). No condition but those that each theorem says.
-/
import Derived.Test.YtlgjlfljohapfaaEMovesLaw
import Derived.Deep.Slices
import Derived.Deep.Fields
import Derived.ChangeSame
import Derived.OpenShut
import Derived.Carry
import Derived.ChangeOld
import Derived.ChangeSlices
import Derived.ChangeMaps5
import Derived.Deep.DeepHandedRow
namespace Go.Proofs.Ytlgjlfljohapfaa
open Go.ChangeShapes Go.WideShapes Go.RowKit

theorem below_all {H : Type} {enc : TypeId × Value → H} {P : Program} (hl : laidOutB P = true) {W W' : World} (hb : Below W.heap.size W W') :
    ∀ {ts : List TypeId} {vs : List Value} {ds : List (DataW H)} {ps : List MemPlace}, (∀ t ∈ ts, P.readableRec t = true ∧ t < P.types.size) → DataW.TrodAll enc P W 0 (fun _ => true) true ts vs ds ps →
      DataW.TrodAll enc P W' 0 (fun b => decide (b < W.heap.size)) true ts vs ds ps
  | [], [], [], _, _, h => h
  | [], [], _ :: _, _, _, h => h.elim
  | [], _ :: _, _, _, _, h => h.elim
  | _ :: _, [], _, _, _, h => h.elim
  | _ :: _, _ :: _, [], _, _, h => h.elim
  | t :: ts, v :: vs, d :: ds, ps, hr, h => by
    have hlt := h.lt
    obtain ⟨p, q, hv, hs, e⟩ := h
    have hrt := hr t List.mem_cons_self
    refine ⟨p, q, Below.trod hl hrt.1 hrt.2 hv hb (fun x hx => hlt x (by rw [e]; exact List.mem_append_left _ hx)), ?_, e⟩
    exact below_all hl hb (fun t ht => hr t (List.mem_cons_of_mem _ ht)) hs

/-- Of a struct in a row of structs, whose fields have one cell each: a field's cell, and that it reads. -/
theorem row_field {H : Type} {enc : TypeId × Value → H} {P : Program} {w : World} {base : Nat} {spare : Nat → Bool} {held : Bool} {e : TypeId} {fs : Array Field} (he : P.underlying e = some (.struct fs)) (hone : Deep.oneCellFields P fs = true) (hC : P.cellsOf e = fs.size) {a : Addr} {i n : Nat} {x : DataW H × List MemPlace} {cs : List Value}
    (hc : w.cells? base (a.add (i * P.cellsOf e)) (P.cellsOf e) = some cs) (ht : DataW.trod enc P w base spare held n e cs = some x) {j : Nat} {f : Field} (hj : fs[j]? = some f) :
    ∃ (v : Value) (y : DataW H × List MemPlace) (m : Nat), w.cell? (a.add (i * fs.size + j)) = some v ∧ DataW.trod enc P w base spare held m f.type [v] = some y := by
  obtain ⟨xs, m, _, _, hlen, hxl, hf⟩ := DataW.trod_struct he ht
  obtain ⟨_, hcl, hat⟩ := World.cells?_some hc
  obtain ⟨ho, hk⟩ := Deep.hone_of hone j f hj
  have hjl : j < fs.size := (Array.getElem?_eq_some_iff.1 hj).1
  have h1 := hf j f hj
  have hl : j < cs.length := by omega
  rw [ho, hk, List.drop_eq_getElem_cons hl, List.take_succ_cons, List.take_zero, List.getElem?_eq_getElem (show j < xs.length by omega)] at h1
  refine ⟨cs[j], xs[j], m, ?_, h1⟩
  have h2 := hat j (by omega)
  rw [Go.Deep.add_add, hC, List.getElem?_eq_getElem hl] at h2
  exact h2
theorem wf64 {a : Int} (h : (Lit.int .i64 a).wf = true) : -9223372036854775808 ≤ a ∧ a ≤ 9223372036854775807 := by
  unfold Lit.wf at h
  rw [Bool.and_eq_true, decide_eq_true_eq, decide_eq_true_eq] at h
  exact h
theorem addr_at {w : World} {a : Addr} {v : Value} (h : w.cell? (a.add 0) = some v) : a = ⟨a.block, a.off, none⟩ := by
  obtain ⟨b, o, sp⟩ := a
  have := World.cell?_spot h
  simp [Addr.add] at this
  subst this
  rfl
instance : Inhabited Spl := ⟨⟨0, 0, ⟨#[]⟩⟩⟩
theorem open_spl {H : Type} {enc : TypeId × Value → H} {w : World} {base : Nat} {sp : Nat → Bool} {held : Bool} {fuel : Nat} {a0 : Option Addr} {len cap : Nat} {x : DataW H × List MemPlace}
    (hf : DataW.trod enc Try.prog w base sp held fuel 22 [.slice a0 len cap] = some x) : ∃ L : List Spl, len = L.length ∧ SR w a0 L ∧ inL L := by
  rcases Deep.open_slice Try.underlying22 hf with ⟨hcs, _⟩ | ⟨a, len', cap', m, n, D, Pl, hcs, _, hl, _, hm, _, hx⟩
  · simp only [List.cons.injEq, Value.slice.injEq, and_true] at hcs
    exact ⟨[], hcs.2.1, fun hp => absurd hp (by simp), fun s hs => by cases hs⟩
  · simp only [List.cons.injEq, Value.slice.injEq, and_true] at hcs
    obtain ⟨rfl, rfl, rfl⟩ := hcs
    have hlm : len ≤ m := by rw [hm]; split <;> omega
    have each : ∀ i, i < m → ∃ s : Spl, w.cell? (a.add (i * 3 + 0)) = some (.int .i64 s.f) ∧ w.cell? (a.add (i * 3 + 1)) = some (.int .i64 s.t) ∧ w.cell? (a.add (i * 3 + 2)) = some (.string s.s) ∧ (-9223372036854775808 ≤ s.f ∧ s.f ≤ 9223372036854775807 ∧ -9223372036854775808 ≤ s.t ∧ s.t ≤ 9223372036854775807) ∧ s.s.size ≤ maxLen := fun i hi => by
      obtain ⟨cs, hc, ht⟩ := hx i hi
      obtain ⟨v0, y0, m0, h0, t0⟩ := row_field Try.underlying62 (by kernel_rfl) (by kernel_rfl) hc ht (j := 0) rfl
      obtain ⟨v1, y1, m1, h1, t1⟩ := row_field Try.underlying62 (by kernel_rfl) (by kernel_rfl) hc ht (j := 1) rfl
      obtain ⟨v2, y2, m2, h2, t2⟩ := row_field Try.underlying62 (by kernel_rfl) (by kernel_rfl) hc ht (j := 2) rfl
      obtain ⟨f, e0, _, w0⟩ := DataW.trod_int Try.underlying3 t0
      obtain ⟨t, e1, _, w1⟩ := DataW.trod_int Try.underlying3 t1
      obtain ⟨s, e2, _, w2⟩ := DataW.trod_string Try.underlying9 t2
      simp only [List.cons.injEq, and_true] at e0 e1 e2
      subst e0 e1 e2
      have b0 := wf64 w0
      have b1 := wf64 w1
      exact ⟨⟨f, t, s⟩, h0, h1, h2, ⟨b0.1, b0.2, b1.1, b1.2⟩, w2⟩
    obtain ⟨S, hS⟩ := Deep.choose_lt each
    refine ⟨(List.range len).map S, by simp, fun hp => ?_, fun s hs => ?_⟩
    · have hlen0 : 0 < len := by simpa using hp
      have ha := addr_at (show w.cell? (a.add 0) = some _ from (hS 0 (by omega)).1)
      refine ⟨a.block, a.off, by rw [← ha], fun j s hj => ?_⟩
      rw [List.getElem?_map] at hj
      by_cases hjl : j < len
      · rw [List.getElem?_range hjl] at hj
        obtain rfl : S j = s := by simpa using hj
        obtain ⟨c0, c1, c2, _⟩ := hS j (by omega)
        rw [ha] at c0 c1 c2
        simp only [Addr.add_lit] at c0 c1 c2
        rw [← Nat.add_assoc] at c0 c1 c2
        exact ⟨c0, c1, c2⟩
      · rw [List.getElem?_eq_none (by simp; omega)] at hj
        cases hj
    · obtain ⟨i, hi, rfl⟩ := List.mem_map.1 hs
      exact (hS i (by have := List.mem_range.1 hi; omega)).2.2.2
end Go.Proofs.Ytlgjlfljohapfaa
