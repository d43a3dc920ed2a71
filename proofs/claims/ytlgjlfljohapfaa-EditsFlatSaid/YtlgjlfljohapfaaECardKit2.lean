/-
  FOR CARDS: a slice of cuts, each with a slice of parts, opened (open_cuts). No condition but those that each theorem says.
-/
import Derived.Test.YtlgjlfljohapfaaECardKit
import Derived.Test.YtlgjlfljohapfaaEFlatLaw
namespace Go.Proofs.Ytlgjlfljohapfaa
open Go.ChangeShapes Go.WideShapes Go.RowKit

instance : Inhabited Prt := ⟨⟨0, 0, ⟨#[]⟩, false⟩⟩
instance : Inhabited Ct := ⟨⟨0, 0, []⟩⟩
theorem open_prt {H : Type} {enc : TypeId × Value → H} {w : World} {base : Nat} {sp : Nat → Bool} {held : Bool} {fuel : Nat} {a0 : Option Addr} {len cap : Nat} {x : DataW H × List MemPlace}
    (hf : DataW.trod enc Try.prog w base sp held fuel 68 [.slice a0 len cap] = some x) : ∃ L : List Prt, len = L.length ∧ PR w a0 L ∧ ∀ p ∈ L, p.s.size ≤ maxLen := by
  rcases Deep.open_slice Try.underlying68 hf with ⟨hcs, _⟩ | ⟨a, len', cap', m, n, D, Pl, hcs, _, hl, _, hm, _, hx⟩
  · simp only [List.cons.injEq, Value.slice.injEq, and_true] at hcs
    exact ⟨[], hcs.2.1, fun hp => absurd hp (by simp), fun s hs => by cases hs⟩
  · simp only [List.cons.injEq, Value.slice.injEq, and_true] at hcs
    obtain ⟨rfl, rfl, rfl⟩ := hcs
    have hlm : len ≤ m := by rw [hm]; split <;> omega
    have each : ∀ i, i < m → ∃ s : Prt, w.cell? (a.add (i * 4 + 0)) = some (.int .i64 s.f) ∧ w.cell? (a.add (i * 4 + 1)) = some (.int .i64 s.t) ∧ w.cell? (a.add (i * 4 + 2)) = some (.string s.s) ∧ w.cell? (a.add (i * 4 + 3)) = some (.bool s.n) ∧ s.s.size ≤ maxLen := fun i hi => by
      obtain ⟨cs, hc, ht⟩ := hx i hi
      obtain ⟨v0, y0, m0, h0, t0⟩ := row_field Try.underlying67 (by kernel_rfl) (by kernel_rfl) hc ht (j := 0) rfl
      obtain ⟨v1, y1, m1, h1, t1⟩ := row_field Try.underlying67 (by kernel_rfl) (by kernel_rfl) hc ht (j := 1) rfl
      obtain ⟨v2, y2, m2, h2, t2⟩ := row_field Try.underlying67 (by kernel_rfl) (by kernel_rfl) hc ht (j := 2) rfl
      obtain ⟨v3, y3, m3, h3, t3⟩ := row_field Try.underlying67 (by kernel_rfl) (by kernel_rfl) hc ht (j := 3) rfl
      obtain ⟨f, e0, _, w0⟩ := DataW.trod_int Try.underlying3 t0
      obtain ⟨t, e1, _, w1⟩ := DataW.trod_int Try.underlying3 t1
      obtain ⟨s, e2, _, w2⟩ := DataW.trod_string Try.underlying9 t2
      obtain ⟨b, e3, _⟩ := DataW.trod_bool Try.underlying4 t3
      simp only [List.cons.injEq, and_true] at e0 e1 e2 e3
      subst e0 e1 e2 e3
      exact ⟨⟨f, t, s, b⟩, h0, h1, h2, h3, w2⟩
    obtain ⟨S, hS⟩ := Deep.choose_lt each
    refine ⟨(List.range len).map S, by simp, fun hp => ?_, fun s hs => ?_⟩
    · have hlen0 : 0 < len := by simpa using hp
      have ha := addr_at (show w.cell? (a.add 0) = some _ from (hS 0 (by omega)).1)
      refine ⟨a.block, a.off, by rw [← ha], fun j s hj => ?_⟩
      rw [List.getElem?_map] at hj
      by_cases hjl : j < len
      · rw [List.getElem?_range hjl] at hj
        obtain rfl : S j = s := by simpa using hj
        obtain ⟨c0, c1, c2, c3, _⟩ := hS j (by omega)
        rw [ha] at c0 c1 c2 c3
        simp only [Addr.add_lit] at c0 c1 c2 c3
        rw [← Nat.add_assoc] at c0 c1 c2 c3
        exact ⟨c0, c1, c2, c3⟩
      · rw [List.getElem?_eq_none (by simp; omega)] at hj
        cases hj
    · obtain ⟨i, hi, rfl⟩ := List.mem_map.1 hs
      exact (hS i (by have := List.mem_range.1 hi; omega)).2.2.2.2
theorem slice_val {H : Type} {enc : TypeId × Value → H} {w : World} {base : Nat} {sp : Nat → Bool} {held : Bool} {fuel : Nat} {v : Value} {x : DataW H × List MemPlace} (hf : DataW.trod enc Try.prog w base sp held fuel 68 [v] = some x) : ∃ a0 len cap, v = .slice a0 len cap := by
  rcases Deep.open_slice Try.underlying68 hf with ⟨hcs, _⟩ | ⟨a, len', cap', m, n, D, Pl, hcs, _⟩
  · simp only [List.cons.injEq, and_true] at hcs
    exact ⟨_, _, _, hcs⟩
  · simp only [List.cons.injEq, and_true] at hcs
    exact ⟨_, _, _, hcs⟩
theorem open_cuts {H : Type} {enc : TypeId × Value → H} {w : World} {base : Nat} {sp : Nat → Bool} {held : Bool} {fuel : Nat} {a0 : Option Addr} {len cap : Nat} {x : DataW H × List MemPlace}
    (hf : DataW.trod enc Try.prog w base sp held fuel 42 [.slice a0 len cap] = some x) : ∃ L : List Ct, len = L.length ∧ CR w a0 L ∧ inC L := by
  rcases Deep.open_slice Try.underlying42 hf with ⟨hcs, _⟩ | ⟨a, len', cap', m, n, D, Pl, hcs, _, hl, _, hm, _, hx⟩
  · simp only [List.cons.injEq, Value.slice.injEq, and_true] at hcs
    exact ⟨[], hcs.2.1, fun hp => absurd hp (by simp), fun s hs => by cases hs⟩
  · simp only [List.cons.injEq, Value.slice.injEq, and_true] at hcs
    obtain ⟨rfl, rfl, rfl⟩ := hcs
    have hlm : len ≤ m := by rw [hm]; split <;> omega
    have each : ∀ i, i < m → ∃ s : Ct, w.cell? (a.add (i * 3 + 0)) = some (.int .i64 s.f) ∧ w.cell? (a.add (i * 3 + 1)) = some (.int .i64 s.t) ∧ (∃ Ap cp, w.cell? (a.add (i * 3 + 2)) = some (.slice Ap s.p.length cp) ∧ PR w Ap s.p) ∧ ∀ p ∈ s.p, p.s.size ≤ maxLen := fun i hi => by
      obtain ⟨cs, hc, ht⟩ := hx i hi
      obtain ⟨v0, y0, m0, h0, t0⟩ := row_field Try.underlying70 (by kernel_rfl) (by kernel_rfl) hc ht (j := 0) rfl
      obtain ⟨v1, y1, m1, h1, t1⟩ := row_field Try.underlying70 (by kernel_rfl) (by kernel_rfl) hc ht (j := 1) rfl
      obtain ⟨v2, y2, m2, h2, t2⟩ := row_field Try.underlying70 (by kernel_rfl) (by kernel_rfl) hc ht (j := 2) rfl
      obtain ⟨f, e0, _, w0⟩ := DataW.trod_int Try.underlying3 t0
      obtain ⟨t, e1, _, w1⟩ := DataW.trod_int Try.underlying3 t1
      simp only [List.cons.injEq, and_true] at e0 e1
      subst e0 e1
      obtain ⟨A2, n2, c2, rfl⟩ := slice_val t2
      obtain ⟨P, rfl, hp, hz⟩ := open_prt t2
      exact ⟨⟨f, t, P⟩, h0, h1, ⟨A2, c2, h2, hp⟩, hz⟩
    obtain ⟨S, hS⟩ := Deep.choose_lt each
    refine ⟨(List.range len).map S, by simp, fun hp => ?_, fun s hs => ?_⟩
    · have hlen0 : 0 < len := by simpa using hp
      have ha := addr_at (show w.cell? (a.add 0) = some _ from (hS 0 (by omega)).1)
      refine ⟨a.block, a.off, by rw [← ha], fun j s hj => ?_⟩
      rw [List.getElem?_map] at hj
      by_cases hjl : j < len
      · rw [List.getElem?_range hjl] at hj
        obtain rfl : S j = s := by simpa using hj
        obtain ⟨c0, c1, ⟨Ap, cp, c2, c3⟩, _⟩ := hS j (by omega)
        rw [ha] at c0 c1 c2
        simp only [Addr.add_lit] at c0 c1 c2
        rw [← Nat.add_assoc] at c0 c1 c2
        exact ⟨c0, c1, Ap, cp, c2, c3⟩
      · rw [List.getElem?_eq_none (by simp; omega)] at hj
        cases hj
    · obtain ⟨i, hi, rfl⟩ := List.mem_map.1 hs
      exact (hS i (by have := List.mem_range.1 hi; omega)).2.2.2
end Go.Proofs.Ytlgjlfljohapfaa
