/-
  FOR CARDS: a slice of changes, and a slice of acts with changes, opened (open_chgs, open_acts). No condition but those that each theorem says.
-/
import Derived.Test.YtpphkkelikdhkaaDoorCardKit
import Derived.Test.YtpphkkelikdhkaaDoorOFoldLaw
import Derived.Deep.Slices
import Derived.Deep.Fields
import Derived.Deep.Strs
import Derived.ChangeSame
namespace Go.Proofs.YtpphkkelikdhkaaDoor
open Go.ChangeShapes Go.WideShapes Go.RowKit

theorem addr_at {w : World} {a : Addr} {v : Value} (h : w.cell? (a.add 0) = some v) : a = ⟨a.block, a.off, none⟩ := by
  obtain ⟨b, o, sp⟩ := a
  have := World.cell?_spot h
  simp [Addr.add] at this
  subst this
  rfl
theorem list6 {α : Type} {l : List α} (h : l.length = 6) : ∃ a b c d e f, l = [a, b, c, d, e, f] := by
  match l, h with
  | [a, b, c, d, e, f], _ => exact ⟨a, b, c, d, e, f, rfl⟩
section
variable {H : Type} {enc : TypeId × Value → H} {w : World} {base : Nat} {sp : Nat → Bool} {held : Bool}
theorem cellsI : Tryd.prog.cellsOf 3 = 1 := by kernel_rfl
theorem cellsB : Tryd.prog.cellsOf 4 = 1 := by kernel_rfl
theorem cellsS : Tryd.prog.cellsOf 9 = 1 := by kernel_rfl
theorem cellsP : Tryd.prog.cellsOf 50 = 2 := by kernel_rfl
theorem cellsR : Tryd.prog.cellsOf 52 = 4 := by kernel_rfl
theorem cellsC : Tryd.prog.cellsOf 54 = 6 := by kernel_rfl
theorem open_pos {fuel : Nat} {c0 c1 : Value} {x : DataW H × List MemPlace} (h : DataW.trod enc Tryd.prog w base sp held fuel 50 [c0, c1] = some x) : ∃ a b : Int, c0 = .int .i64 a ∧ c1 = .int .i64 b := by
  obtain ⟨y0, y1, n, _, _, h0, h1⟩ := trod_struct2 Tryd.underlying50 h
  dsimp only at h0 h1
  rw [cellsI] at h0 h1
  simp only [List.drop_zero, List.drop_succ_cons, List.take_succ_cons, List.take_zero] at h0 h1
  obtain ⟨a, e0, _⟩ := DataW.trod_int Tryd.underlying3 h0
  obtain ⟨b, e1, _⟩ := DataW.trod_int Tryd.underlying3 h1
  simp only [List.cons.injEq, and_true] at e0 e1
  exact ⟨a, b, e0, e1⟩
theorem open_range {fuel : Nat} {c0 c1 c2 c3 : Value} {x : DataW H × List MemPlace} (h : DataW.trod enc Tryd.prog w base sp held fuel 52 [c0, c1, c2, c3] = some x) : ∃ a b c d : Int, c0 = .int .i64 a ∧ c1 = .int .i64 b ∧ c2 = .int .i64 c ∧ c3 = .int .i64 d := by
  obtain ⟨y0, y1, n, _, _, h0, h1⟩ := trod_struct2 Tryd.underlying52 h
  dsimp only at h0 h1
  rw [cellsP] at h0 h1
  simp only [List.drop_zero, List.drop_succ_cons, List.take_succ_cons, List.take_zero] at h0 h1
  obtain ⟨a, b, e0, e1⟩ := open_pos h0
  obtain ⟨c, d, e2, e3⟩ := open_pos h1
  exact ⟨a, b, c, d, e0, e1, e2, e3⟩
theorem open_chg {fuel : Nat} {cs : List Value} {x : DataW H × List MemPlace} (h : DataW.trod enc Tryd.prog w base sp held fuel 54 cs = some x) : ∃ s : Chg, cs = [.bool s.w, .int .i64 s.a, .int .i64 s.b, .int .i64 s.c, .int .i64 s.d, .string s.s] ∧ s.s.size ≤ maxLen := by
  obtain ⟨y0, y1, y2, n, _, hl, h0, h1, h2⟩ := Go.Deep.trod_struct3 Tryd.underlying54 h
  rw [cellsC] at hl
  obtain ⟨c0, c1, c2, c3, c4, c5, rfl⟩ := list6 hl
  dsimp only at h0 h1 h2
  rw [cellsB] at h0
  rw [cellsR] at h1
  rw [cellsS] at h2
  simp only [List.drop_zero, List.drop_succ_cons, List.take_succ_cons, List.take_zero] at h0 h1 h2
  obtain ⟨b, e0, _⟩ := DataW.trod_bool Tryd.underlying4 h0
  obtain ⟨p, q, r, t, e1, e2, e3, e4⟩ := open_range h1
  obtain ⟨z, e5, _, w5⟩ := DataW.trod_string Tryd.underlying9 h2
  simp only [List.cons.injEq, and_true] at e0 e5
  subst e0 e1 e2 e3 e4 e5
  exact ⟨⟨b, p, q, r, t, z⟩, rfl, w5⟩
instance : Inhabited Chg := ⟨⟨true, 0, 0, 0, 0, ⟨#[]⟩⟩⟩
theorem open_chgs {fuel : Nat} {a0 : Option Addr} {len cap : Nat} {x : DataW H × List MemPlace} (hf : DataW.trod enc Tryd.prog w base sp held fuel 26 [.slice a0 len cap] = some x) : ∃ L : List Chg, len = L.length ∧ CR w a0 L ∧ (L.length ≤ cap ∧ cap ≤ maxLen) := by
  rcases Deep.open_slice Tryd.underlying26 hf with ⟨hcs, _⟩ | ⟨a, len', cap', m, n, D, Pl, hcs, _, hl, hcm, hm, _, hx⟩
  · simp only [List.cons.injEq, Value.slice.injEq, and_true] at hcs
    exact ⟨[], hcs.2.1, fun hp => absurd hp (by simp), Nat.zero_le _, by rw [hcs.2.2]; exact Nat.zero_le _⟩
  · simp only [List.cons.injEq, Value.slice.injEq, and_true] at hcs
    obtain ⟨rfl, rfl, rfl⟩ := hcs
    have hlm : len ≤ m := by rw [hm]; split <;> omega
    have each : ∀ i, i < m → ∃ s : Chg, w.cell? (a.add (i * 6 + 0)) = some (.bool s.w) ∧ w.cell? (a.add (i * 6 + 1)) = some (.int .i64 s.a) ∧ w.cell? (a.add (i * 6 + 2)) = some (.int .i64 s.b) ∧ w.cell? (a.add (i * 6 + 3)) = some (.int .i64 s.c) ∧ w.cell? (a.add (i * 6 + 4)) = some (.int .i64 s.d) ∧ w.cell? (a.add (i * 6 + 5)) = some (.string s.s) := fun i hi => by
      obtain ⟨cs, hc, ht⟩ := hx i hi
      obtain ⟨s, rfl, _⟩ := open_chg ht
      obtain ⟨_, _, hat⟩ := World.cells?_some hc
      rw [cellsC] at hat
      have g := fun k (hk : k < 6) => hat k hk
      simp only [Go.Deep.add_add] at g
      exact ⟨s, g 0 (by decide), g 1 (by decide), g 2 (by decide), g 3 (by decide), g 4 (by decide), g 5 (by decide)⟩
    obtain ⟨S, hS⟩ := Deep.choose_lt each
    refine ⟨(List.range len).map S, by simp, fun hp => ?_, by simpa using hl, hcm⟩
    have hlen0 : 0 < len := by simpa using hp
    have ha := addr_at (show w.cell? (a.add 0) = some _ from (hS 0 (by omega)).1)
    refine ⟨a.block, a.off, by rw [← ha], fun j s hj => ?_⟩
    rw [List.getElem?_map] at hj
    by_cases hjl : j < len
    · rw [List.getElem?_range hjl] at hj
      obtain rfl : S j = s := by simpa using hj
      obtain ⟨c0, c1, c2, c3, c4, c5⟩ := hS j (by omega)
      rw [ha] at c0 c1 c2 c3 c4 c5
      simp only [Addr.add_lit] at c0 c1 c2 c3 c4 c5
      rw [← Nat.add_assoc] at c0 c1 c2 c3 c4 c5
      exact ⟨c0, c1, c2, c3, c4, c5⟩
    · rw [List.getElem?_eq_none (by simp; omega)] at hj
      cases hj
theorem open_chgsT {a0 : Option Addr} {len cap : Nat} {d : DataW H} {ps : List MemPlace} (h : DataW.Trod enc Tryd.prog w base sp held 26 (.slice a0 len cap) d ps) : ∃ L : List Chg, len = L.length ∧ CR w a0 L ∧ (L.length ≤ cap ∧ cap ≤ maxLen) := by
  obtain ⟨fuel, hf⟩ := h
  have hf' : DataW.trod enc Tryd.prog w base sp held fuel 26 [.slice a0 len cap] = some (d, ps) := hf
  exact open_chgs hf'
end
end Go.Proofs.YtpphkkelikdhkaaDoor
