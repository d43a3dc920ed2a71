/-
  emendref06.Offset AT EVERY TEXT of at most 1000000 bytes, every Pos: the place, the error's number; no memory that was there turns. Condition: the text's length.
-/
import Derived.Test.YtnmbclkpncjebaaRefLines
import Derived.Test.YtnmbclkpncjebaaPlace
namespace Go.Proofs.Ytnmbclkpncjebaa
open Go.RowKit

/-- A slice that reads as lines. -/
def RReads (W : World) (A : Option Addr) (rs : List (Nat × Nat)) : Prop :=
  0 < rs.length → ∃ g, A = some ⟨g, 0, none⟩ ∧ ∀ i r, rs[i]? = some r → W.cell? ⟨g, i * 2, none⟩ = some (.int .i64 (r.1 : Int)) ∧ W.cell? ⟨g, i * 2 + 1, none⟩ = some (.int .i64 (r.2 : Int))
theorem rcells_at : ∀ (rs : List (Nat × Nat)) (i : Nat) (r : Nat × Nat) (f : Nat), rs[i]? = some r → f < 2 → (rcells rs)[i * 2 + f]? = (rcell r)[f]?
  | [], i, p, f, h, _ => by simp at h
  | q :: rs, 0, p, f, h, hf => by
    obtain rfl : q = p := by simpa using h
    show (rcell q ++ rcells rs)[0 * 2 + f]? = _
    rw [Nat.zero_mul, Nat.zero_add, List.getElem?_append_left (by simpa [rcell] using hf)]
  | q :: rs, i + 1, p, f, h, hf => by
    have := rcells_at rs i p f (by simpa using h) hf
    show (rcell q ++ rcells rs)[(i + 1) * 2 + f]? = _
    rw [List.getElem?_append_right (by simp [rcell]; omega), show (i + 1) * 2 + f - (rcell q).length = i * 2 + f by simp [rcell]; omega, this]
theorem rreads_of {W : World} {base : Nat} {v : Value} {rs : List (Nat × Nat)} (h : W.ownsRow base 30 2 v rs.length (rcells rs)) : ∃ A cap, v = .slice A rs.length cap ∧ RReads W A rs := by
  rcases h.2 with ⟨rfl, h0⟩ | ⟨g, cap, cur, rfl, _, hg, _, _, _, ht⟩
  · exact ⟨none, 0, by rw [h0], fun hp => by omega⟩
  · refine ⟨_, cap, rfl, fun _ => ⟨g, rfl, fun i r hp => ?_⟩⟩
    have hi : i < rs.length := (List.getElem?_eq_some_iff.1 hp).1
    have key : ∀ f x, f < 2 → (rcell r)[f]? = some x → W.cell? ⟨g, i * 2 + f, none⟩ = some x := by
      intro f x hf hx
      rw [cell_at hg, ← Array.getElem?_toList]
      have h1 := rcells_at rs i r f hp hf
      rw [hx, ← ht, List.getElem?_take, if_pos (by omega)] at h1
      exact h1
    exact ⟨key 0 _ (by omega) rfl, key 1 _ (by omega) rfl⟩
end Go.Proofs.Ytnmbclkpncjebaa
