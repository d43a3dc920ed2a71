/-
  FOR CARDS: a slice of parts (a text and a byte each) opened (open_parts). No condition but those that the theorem says.
-/
import Derived.Test.YtmaihiklcdidbaaDoorCardKit
import Derived.Test.YtmaihiklcdidbaaDoorReads
import Derived.Deep.SlicePairs
import Derived.Deep.Strs
namespace Go.Proofs.YtmaihiklcdidbaaDoor
open Go.ChangeShapes Go.WideShapes Go.RowKit

theorem open_parts {H : Type} {enc : TypeId × Value → H} {w : World} {base : Nat} {sp : Nat → Bool} {held : Bool} {a0 : Option Addr} {len cap : Nat} {d : DataW H} {ps : List MemPlace}
    (h : DataW.Trod enc Tryd.prog w base sp held 22 (.slice a0 len cap) d ps) : ∃ M : List (ByteArray × UInt8), len = M.length ∧ PReads w a0 M := by
  obtain ⟨fuel, hf⟩ := h
  have hf' : DataW.trod enc Tryd.prog w base sp held fuel 22 [.slice a0 len cap] = some (d, ps) := hf
  rcases Deep.open_slice_pairs Tryd.underlying22 Tryd.underlying30 (by kernel_rfl) (by kernel_rfl) (by kernel_rfl) (by kernel_rfl) (by kernel_rfl) hf' with ⟨hcs, _⟩ | ⟨a, len', cap', m, n, V0, V1, D0, D1, P0, P1, hcs, _, hl, _, hm, _, hx⟩
  · simp only [List.cons.injEq, Value.slice.injEq, and_true] at hcs
    exact ⟨[], hcs.2.1, fun hp => absurd hp (by simp), fun s hs => by cases hs⟩
  · simp only [List.cons.injEq, Value.slice.injEq, and_true] at hcs
    obtain ⟨rfl, rfl, rfl⟩ := hcs
    have hlm : len ≤ m := by rw [hm]; split <;> omega
    have each : ∀ i, i < m → ∃ s : ByteArray × UInt8, w.cell? (a.add (i * 2)) = some (.string s.1) ∧ w.cell? (a.add (i * 2 + 1)) = some (.int .u8 (s.2.toNat : Int)) ∧ s.1.size ≤ maxLen := fun i hi => by
      obtain ⟨h1, h2, h3, h4⟩ := hx i hi
      obtain ⟨s, e1, _, e3⟩ := DataW.trod_string Tryd.underlying9 h3
      obtain ⟨z, e4, _, e6⟩ := DataW.trod_int Tryd.underlying5 h4
      have e1' : V0 i = .string s := by simpa using e1
      have e4' : V1 i = .int .u8 z := by simpa using e4
      have hz : 0 ≤ z ∧ z ≤ 255 := by
        unfold Lit.wf at e6
        rw [Bool.and_eq_true, decide_eq_true_eq, decide_eq_true_eq] at e6
        exact e6
      refine ⟨(s, UInt8.ofNat z.toNat), by rw [h1, e1'], ?_, e3⟩
      rw [h2, e4', ofNat_toNat z.toNat (by omega)]
      congr 2
      omega
    obtain ⟨Sx, hS⟩ := Deep.choose_lt each
    refine ⟨(List.range len).map Sx, by simp, fun hp => ?_, fun s hs => ?_⟩
    · have hlen0 : 0 < len := by simpa using hp
      obtain ⟨b, o, sp⟩ := a
      have h0 := (hS 0 (by omega)).1
      have hs0 : sp = none := by simpa [Addr.add] using World.cell?_spot h0
      subst hs0
      refine ⟨b, o, rfl, fun j s hj => ?_⟩
      rw [List.getElem?_map] at hj
      by_cases hjl : j < len
      · rw [List.getElem?_range hjl] at hj
        obtain rfl : Sx j = s := by simpa using hj
        obtain ⟨c0, c1, _⟩ := hS j (by omega)
        rw [add_plain] at c0 c1
        exact ⟨c0, c1⟩
      · rw [List.getElem?_eq_none (by simp; omega)] at hj
        cases hj
    · obtain ⟨i, hi, rfl⟩ := List.mem_map.1 hs
      exact (hS i (by have := List.mem_range.1 hi; omega)).2.2
end Go.Proofs.YtmaihiklcdidbaaDoor
