/-
  FOR CARDS: arguments of any types read as they did behind a call that turns nothing that was there (below_all); a slice of bytes opened (open_bytes). No condition but those that each theorem says.
-/
import Derived.Test.YtfcboonbjlampaaDoorLoose
import Derived.OpenShut
import Derived.Carry
import Derived.ChangeOld
import Derived.ChangeSlices
import Derived.ChangeMaps5
import Derived.Deep.DeepHandedRow
namespace Go.Proofs.YtfcboonbjlampaaDoor
open Go.ChangeShapes Go.WideShapes Go.RowKit

theorem below_all {H : Type} {enc : TypeId × Value → H} {P : Program} (hl : laidOutB P = true) {W W' : World} (hb : Below W.heap.size W W') :
    ∀ {ts : List TypeId} {vs : List Value} {ds : List (DataW H)} {ps : List MemPlace}, (∀ t ∈ ts, P.readableRec t = true ∧ t < P.types.size) → DataW.TrodAll enc P W 0 (fun _ => true) true ts vs ds ps →
      DataW.TrodAll enc P W' 0 (fun b => decide (b < W.heap.size)) true ts vs ds ps
  | [], [], [], _, _, h => h
  | [], [], _ :: _, _, _, h => h.elim
  | [], _ :: _, _, _, _, h => h.elim
  | _ :: _, [], _, _, _, h => h.elim
  | _ :: _, _ :: _, [], _, _, h => h.elim
  | t :: ts, v :: vs, d :: ds, ps, hr, h => by
    have hlt := h.lt
    obtain ⟨p, q, hv, hs, e⟩ := h
    have hrt := hr t List.mem_cons_self
    refine ⟨p, q, Below.trod hl hrt.1 hrt.2 hv hb (fun x hx => hlt x (by rw [e]; exact List.mem_append_left _ hx)), ?_, e⟩
    exact below_all hl hb (fun t ht => hr t (List.mem_cons_of_mem _ ht)) hs
theorem open_bytes {H : Type} {enc : TypeId × Value → H} {P : Program} {w : World} {base : Nat} {sp : Nat → Bool} {held : Bool} {t e : TypeId} {a0 : Option Addr} {len cap : Nat} {d : DataW H} {ps : List MemPlace}
    (ht : P.underlying t = some (.slice e)) (he : P.underlying e = some (.int .u8)) (hc : P.cellsOf e = 1) (h : DataW.Trod enc P w base sp held t (.slice a0 len cap) d ps) : ∃ M : List UInt8, len = M.length ∧ BReads w a0 M := by
  obtain ⟨fuel, hf⟩ := h
  have hf' : DataW.trod enc P w base sp held fuel t [.slice a0 len cap] = some (d, ps) := hf
  rcases open_ints ht he hc hf' with ⟨hcs, _⟩ | ⟨a, len', cap', zs, hcs, _, hl, _, hz, _, hcell, hwz⟩
  · simp only [List.cons.injEq, Value.slice.injEq, and_true] at hcs
    exact ⟨[], hcs.2.1, fun hp => absurd hp (by simp)⟩
  · simp only [List.cons.injEq, Value.slice.injEq, and_true] at hcs
    obtain ⟨rfl, rfl, rfl⟩ := hcs
    have hlz : len ≤ zs.length := by rw [hz]; split <;> omega
    refine ⟨(zs.take len).map (fun z => UInt8.ofNat z.toNat), by simp; omega, fun hp => ?_⟩
    have hlen0 : 0 < len := by
      rw [List.length_map, List.length_take] at hp; omega
    obtain ⟨b, o, sp⟩ := a
    have h0 := hcell 0 (by omega)
    have hs0 : sp = none := by simpa [Addr.add] using World.cell?_spot h0
    subst hs0
    refine ⟨b, o, rfl, fun j c hj => ?_⟩
    rw [List.getElem?_map] at hj
    cases hzj : (zs.take len)[j]? with
    | none => rw [hzj] at hj; cases hj
    | some z =>
      rw [hzj] at hj
      obtain rfl : UInt8.ofNat z.toNat = c := by simpa using hj
      rw [List.getElem?_take] at hzj
      split at hzj
      · have hjl : j < zs.length := (List.getElem?_eq_some_iff.1 hzj).1
        have hcj := hcell j hjl
        have hw := hwz z (List.mem_of_getElem? hzj)
        have hzb : 0 ≤ z ∧ z ≤ 255 := by
          unfold Lit.wf at hw
          rw [Bool.and_eq_true, decide_eq_true_eq, decide_eq_true_eq] at hw
          exact hw
        have hgd : zs.getD j 0 = z := by rw [List.getD_eq_getElem?_getD, hzj]; rfl
        rw [hgd] at hcj
        have hadd : (⟨b, o, none⟩ : Addr).add j = ⟨b, o + j, none⟩ := add_plain _ _ _
        rw [hadd] at hcj
        rw [hcj, ofNat_toNat z.toNat (by omega)]
        congr 2
        omega
      · cases hzj
end Go.Proofs.YtfcboonbjlampaaDoor
