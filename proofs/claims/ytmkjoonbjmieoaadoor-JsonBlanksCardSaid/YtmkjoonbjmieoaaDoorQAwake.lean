/-
  emendlaw03's cut, blank, awake: what they return; no memory that was there turns. How a slice reads as tokens. Conditions of awake: the variables that are read hold what their text lays (Facts).
-/
import Derived.Test.YtmkjoonbjmieoaaDoorQToks
namespace Go.Proofs.YtmkjoonbjmieoaaDoor
open Go.RowKit

theorem cell_at {W : World} {g o : Nat} {cur : Array Value} {t : TypeId} {fz : Nat × Nat} (h : W.heap[g]? = some (.cells cur t fz)) : W.cell? ⟨g, o, none⟩ = cur[o]? := by simp [World.cell?, h]
/-- A slice that reads as tokens. -/
def TReads (W : World) (A : Option Addr) (ts : List Tok) : Prop :=
  0 < ts.length → ∃ g, A = some ⟨g, 0, none⟩ ∧ ∀ i t, ts[i]? = some t → W.cell? ⟨g, i * 4, none⟩ = some (.int .i64 (t.1 : Int)) ∧ W.cell? ⟨g, i * 4 + 1, none⟩ = some (.string (txt t.2.1)) ∧ W.cell? ⟨g, i * 4 + 2, none⟩ = some (.int .i64 (t.2.2.1 : Int)) ∧ W.cell? ⟨g, i * 4 + 3, none⟩ = some (.int .i64 (t.2.2.2 : Int))
theorem tcells_at : ∀ (ts : List Tok) (i : Nat) (t : Tok) (f : Nat), ts[i]? = some t → f < 4 → (tcells ts)[i * 4 + f]? = (tcell t)[f]?
  | [], i, t, f, h, _ => by simp at h
  | q :: ts, 0, t, f, h, hf => by
    obtain rfl : q = t := by simpa using h
    show (tcell q ++ tcells ts)[0 * 4 + f]? = _
    rw [Nat.zero_mul, Nat.zero_add, List.getElem?_append_left (by simpa [tcell] using hf)]
  | q :: ts, i + 1, t, f, h, hf => by
    have := tcells_at ts i t f (by simpa using h) hf
    show (tcell q ++ tcells ts)[(i + 1) * 4 + f]? = _
    rw [List.getElem?_append_right (by simp [tcell]; omega), show (i + 1) * 4 + f - (tcell q).length = i * 4 + f by simp [tcell]; omega, this]
theorem treads_of {W : World} {base : Nat} {v : Value} {e : TypeId} {ts : List Tok} (h : W.ownsRow base e 4 v ts.length (tcells ts)) : ∃ A cap, v = .slice A ts.length cap ∧ TReads W A ts := by
  rcases h.2 with ⟨rfl, h0⟩ | ⟨g, cap, cur, rfl, _, hg, _, _, _, ht⟩
  · exact ⟨none, 0, by rw [h0], fun hp => by omega⟩
  · refine ⟨_, cap, rfl, fun _ => ⟨g, rfl, fun i t hp => ?_⟩⟩
    have hi : i < ts.length := (List.getElem?_eq_some_iff.1 hp).1
    have key : ∀ f x, f < 4 → (tcell t)[f]? = some x → W.cell? ⟨g, i * 4 + f, none⟩ = some x := by
      intro f x hf hx
      rw [cell_at hg, ← Array.getElem?_toList]
      have h1 := tcells_at ts i t f hp hf
      rw [hx, ← ht, List.getElem?_take, if_pos (by omega)] at h1
      exact h1
    exact ⟨key 0 _ (by omega) rfl, key 1 _ (by omega) rfl, key 2 _ (by omega) rfl, key 3 _ (by omega) rfl⟩
theorem treads_keep {W W' : World} {A : Option Addr} {ts : List Tok} (h : TReads W A ts) (hb : Below W.heap.size W W') : TReads W' A ts := by
  intro hp
  obtain ⟨g, hA, hc⟩ := h hp
  exact ⟨g, hA, fun i t ht => by
    obtain ⟨h0, h1, h2, h3⟩ := hc i t ht
    exact ⟨cell_keep2 hb h0, cell_keep2 hb h1, cell_keep2 hb h2, cell_keep2 hb h3⟩⟩
/-- Tokens of a text that has some. -/
theorem tokens_ok (s : ByteArray) (hs : s.size ≤ 1000000) (ts : List Tok) (h : tokensR s.data.toList = .ok ts) (w : World) (hF : Facts w) : Calls Tryd.prog 13 #[.string s] w fun e w' => ∃ A cap, e = .returned (.tuple #[.slice A ts.length cap, .int .i64 0, .int .i64 0]) ∧ TReads w' A ts ∧ Below w.heap.size w w' := by
  refine (tokens_any s hs w hF).mono ?_
  rintro e w' ⟨v, rfl, ho, hb⟩
  rw [h] at ho ⊢
  obtain ⟨A, cap, rfl, hr⟩ := treads_of ho
  exact ⟨A, cap, rfl, hr, hb⟩
/-- Tokens of a text that has none. -/
theorem tokens_no (s : ByteArray) (hs : s.size ≤ 1000000) (k e0 : Nat) (h : tokensR s.data.toList = .error (k, e0)) (w : World) (hF : Facts w) : Calls Tryd.prog 13 #[.string s] w fun e w' => ∃ A cap, e = .returned (.tuple #[.slice A 0 cap, .int .i64 (k : Int), .int .i64 (e0 : Int)]) ∧ Below w.heap.size w w' := by
  refine (tokens_any s hs w hF).mono ?_
  rintro e w' ⟨v, rfl, ho, hb⟩
  rw [h] at ho ⊢
  obtain ⟨A, cap, rfl, hr⟩ := treads_of ho
  exact ⟨A, cap, rfl, hb⟩
theorem txt_list (l : List UInt8) : (txt l).toList = l := by rw [Lib.toList_data]; rfl
def awakeT : ByteArray := ⟨#[123, 34, 97, 34, 58, 45, 49, 46, 53, 101, 51, 125]⟩
theorem awake_toks : tokensR awakeT.data.toList = .ok [(1, [123], 0, 1), (4, [97], 1, 4), (1, [58], 4, 5), (3, [45, 49, 46, 53, 101, 51], 5, 11), (1, [125], 11, 12)] := by kernel_rfl
/-- The first 2000 bytes of a text. -/
def cutB (s : ByteArray) : ByteArray := s.extract 0 (min s.size 2000)
end Go.Proofs.YtmkjoonbjmieoaaDoor
