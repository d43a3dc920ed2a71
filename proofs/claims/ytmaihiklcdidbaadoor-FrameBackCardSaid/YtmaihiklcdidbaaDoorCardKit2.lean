/-
  FOR CARDS: a slice of bytes, a slice of texts opened (open_bytes, open_strs). No condition but those that each theorem says.
-/
import Derived.Test.YtmaihiklcdidbaaDoorCardKit
import Derived.Test.YtmaihiklcdidbaaDoorBack
import Derived.Deep.Strs
namespace Go.Proofs.YtmaihiklcdidbaaDoor
open Go.ChangeShapes Go.WideShapes Go.RowKit

theorem open_bytes {H : Type} {enc : TypeId × Value → H} {P : Program} {w : World} {base : Nat} {sp : Nat → Bool} {held : Bool} {t e : TypeId} {a0 : Option Addr} {len cap : Nat} {d : DataW H} {ps : List MemPlace}
    (ht : P.underlying t = some (.slice e)) (he : P.underlying e = some (.int .u8)) (hc : P.cellsOf e = 1) (h : DataW.Trod enc P w base sp held t (.slice a0 len cap) d ps) : ∃ M : List UInt8, len = M.length ∧ BReads w a0 M := by
  obtain ⟨fuel, hf⟩ := h
  have hf' : DataW.trod enc P w base sp held fuel t [.slice a0 len cap] = some (d, ps) := hf
  rcases open_ints ht he hc hf' with ⟨hcs, _⟩ | ⟨a, len', cap', zs, hcs, _, hl, _, hz, _, hcell, hwz⟩
  · simp only [List.cons.injEq, Value.slice.injEq, and_true] at hcs
    exact ⟨[], hcs.2.1, fun hp => absurd hp (by simp)⟩
  · simp only [List.cons.injEq, Value.slice.injEq, and_true] at hcs
    obtain ⟨rfl, rfl, rfl⟩ := hcs
    have hlz : len ≤ zs.length := by rw [hz]; split <;> omega
    refine ⟨(zs.take len).map (fun z => UInt8.ofNat z.toNat), by simp; omega, fun hp => ?_⟩
    have hlen0 : 0 < len := by
      rw [List.length_map, List.length_take] at hp; omega
    obtain ⟨b, o, sp⟩ := a
    have h0 := hcell 0 (by omega)
    have hs0 : sp = none := by simpa [Addr.add] using World.cell?_spot h0
    subst hs0
    refine ⟨b, o, rfl, fun j c hj => ?_⟩
    rw [List.getElem?_map] at hj
    cases hzj : (zs.take len)[j]? with
    | none => rw [hzj] at hj; cases hj
    | some z =>
      rw [hzj] at hj
      obtain rfl : UInt8.ofNat z.toNat = c := by simpa using hj
      rw [List.getElem?_take] at hzj
      split at hzj
      · have hjl : j < zs.length := (List.getElem?_eq_some_iff.1 hzj).1
        have hcj := hcell j hjl
        have hw := hwz z (List.mem_of_getElem? hzj)
        have hzb : 0 ≤ z ∧ z ≤ 255 := by
          unfold Lit.wf at hw
          rw [Bool.and_eq_true, decide_eq_true_eq, decide_eq_true_eq] at hw
          exact hw
        have hgd : zs.getD j 0 = z := by rw [List.getD_eq_getElem?_getD, hzj]; rfl
        rw [hgd] at hcj
        have hadd : (⟨b, o, none⟩ : Addr).add j = ⟨b, o + j, none⟩ := add_plain _ _ _
        rw [hadd] at hcj
        rw [hcj, ofNat_toNat z.toNat (by omega)]
        congr 2
        omega
      · cases hzj
theorem open_strs {H : Type} {enc : TypeId × Value → H} {w : World} {base : Nat} {sp : Nat → Bool} {held : Bool} {a0 : Option Addr} {len cap : Nat} {d : DataW H} {ps : List MemPlace}
    (h : DataW.Trod enc Tryd.prog w base sp held 44 (.slice a0 len cap) d ps) : ∃ M : List ByteArray, len = M.length ∧ SReads w a0 M := by
  obtain ⟨fuel, hf⟩ := h
  have hf' : DataW.trod enc Tryd.prog w base sp held fuel 44 [.slice a0 len cap] = some (d, ps) := hf
  rcases Deep.open_strs Tryd.underlying44 Tryd.underlying9 (by kernel_rfl) hf' with ⟨hcs, _⟩ | ⟨a, len', cap', m, Sx, hcs, _, hl, _, hm, _, hcell⟩
  · simp only [List.cons.injEq, Value.slice.injEq, and_true] at hcs
    exact ⟨[], hcs.2.1, fun hp => absurd hp (by simp), fun s hs => by cases hs⟩
  · simp only [List.cons.injEq, Value.slice.injEq, and_true] at hcs
    obtain ⟨rfl, rfl, rfl⟩ := hcs
    have hlm : len ≤ m := by rw [hm]; split <;> omega
    refine ⟨(List.range len).map Sx, by simp, fun hp => ?_, fun s hs => ?_⟩
    · have hlen0 : 0 < len := by simpa using hp
      obtain ⟨b, o, sp⟩ := a
      have h0 := (hcell 0 (by omega)).1
      have hs0 : sp = none := by simpa [Addr.add] using World.cell?_spot h0
      subst hs0
      refine ⟨b, o, rfl, fun j s hj => ?_⟩
      rw [List.getElem?_map] at hj
      by_cases hjl : j < len
      · rw [List.getElem?_range hjl] at hj
        obtain rfl : Sx j = s := by simpa using hj
        have hcj := (hcell j (by omega)).1
        rw [add_plain] at hcj
        exact hcj
      · rw [List.getElem?_eq_none (by simp; omega)] at hj
        cases hj
    · obtain ⟨i, hi, rfl⟩ := List.mem_map.1 hs
      exact (hcell i (by have := List.mem_range.1 hi; omega)).2
end Go.Proofs.YtmaihiklcdidbaaDoor
