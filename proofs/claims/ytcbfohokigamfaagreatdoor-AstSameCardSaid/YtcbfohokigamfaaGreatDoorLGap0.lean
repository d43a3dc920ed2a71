/-
  lexer's lineEnds (a closure on the tokens so far): what it makes of them; how a slice reads as tokens. Conditions: how many tokens there are; their kinds.
-/
import Derived.Test.YtcbfohokigamfaaGreatDoorLFind
import Derived.Test.YtcbfohokigamfaaGreatDoorLPlain4
namespace Go.Proofs.YtcbfohokigamfaaGreatDoor
open Go.RowKit

theorem Tryz.info56 : (Tryz.prog.info? 56).map (fun i => (i.zero, i.size, i.bytes)) = some (some (.agg #[.int .i64 0, .string ⟨#[]⟩, .int .i64 0, .int .i64 0]), 4, 40) := by kernel_rfl
def tcell (t : Tok) : List Value := [.int .i64 (t.1 : Int), .string (txt t.2.1), .int .i64 (t.2.2.1 : Int), .int .i64 (t.2.2.2 : Int)]
def tcells (l : List Tok) : List Value := l.flatMap tcell
theorem tcells_snoc (l : List Tok) (t : Tok) : tcells (l ++ [t]) = tcells l ++ tcell t := by simp [tcells]
/-- A slice that reads as tokens. -/
def TReads (W : World) (A : Option Addr) (ts : List Tok) : Prop :=
  0 < ts.length → ∃ g, A = some ⟨g, 0, none⟩ ∧ ∀ i t, ts[i]? = some t → W.cell? ⟨g, i * 4, none⟩ = some (.int .i64 (t.1 : Int)) ∧ W.cell? ⟨g, i * 4 + 1, none⟩ = some (.string (txt t.2.1)) ∧ W.cell? ⟨g, i * 4 + 2, none⟩ = some (.int .i64 (t.2.2.1 : Int)) ∧ W.cell? ⟨g, i * 4 + 3, none⟩ = some (.int .i64 (t.2.2.2 : Int))
theorem tcells_at : ∀ (ts : List Tok) (i : Nat) (t : Tok) (f : Nat), ts[i]? = some t → f < 4 → (tcells ts)[i * 4 + f]? = (tcell t)[f]?
  | [], i, t, f, h, _ => by simp at h
  | q :: ts, 0, t, f, h, hf => by
    obtain rfl : q = t := by simpa using h
    show (tcell q ++ tcells ts)[0 * 4 + f]? = _
    rw [Nat.zero_mul, Nat.zero_add, List.getElem?_append_left (by simpa [tcell] using hf)]
  | q :: ts, i + 1, t, f, h, hf => by
    have := tcells_at ts i t f (by simpa using h) hf
    show (tcell q ++ tcells ts)[(i + 1) * 4 + f]? = _
    rw [List.getElem?_append_right (by simp [tcell]; omega), show (i + 1) * 4 + f - (tcell q).length = i * 4 + f by simp [tcell]; omega, this]
theorem treads_of {W : World} {base : Nat} {v : Value} {e : TypeId} {ts : List Tok} (h : W.ownsRow base e 4 v ts.length (tcells ts)) : ∃ A cap, v = .slice A ts.length cap ∧ TReads W A ts := by
  rcases h.2 with ⟨rfl, h0⟩ | ⟨g, cap, cur, rfl, _, hg, _, _, _, ht⟩
  · exact ⟨none, 0, by rw [h0], fun hp => by omega⟩
  · refine ⟨_, cap, rfl, fun _ => ⟨g, rfl, fun i t hp => ?_⟩⟩
    have hi : i < ts.length := (List.getElem?_eq_some_iff.1 hp).1
    have key : ∀ f x, f < 4 → (tcell t)[f]? = some x → W.cell? ⟨g, i * 4 + f, none⟩ = some x := by
      intro f x hf hx
      rw [cell_at hg, ← Array.getElem?_toList]
      have h1 := tcells_at ts i t f hp hf
      rw [hx, ← ht, List.getElem?_take, if_pos (by omega)] at h1
      exact h1
    exact ⟨key 0 _ (by omega) rfl, key 1 _ (by omega) rfl, key 2 _ (by omega) rfl, key 3 _ (by omega) rfl⟩
theorem treads_keep {W W' : World} {A : Option Addr} {ts : List Tok} (h : TReads W A ts) (hb : Below W.heap.size W W') : TReads W' A ts := by
  intro hp
  obtain ⟨g, hA, hc⟩ := h hp
  exact ⟨g, hA, fun i t ht => by
    obtain ⟨h0, h1, h2, h3⟩ := hc i t ht
    exact ⟨cell_keep2 hb h0, cell_keep2 hb h1, cell_keep2 hb h2, cell_keep2 hb h3⟩⟩
theorem owns_row_keep {W W' : World} {B : Nat} {e : TypeId} {size n : Nat} {v : Value} {xs : List Value} (h : W.ownsRow B e size v n xs) (hk : ∀ k, v.ownBlock = some k → W'.heap[k]? = W.heap[k]?) : W'.ownsRow B e size v n xs := by
  refine ⟨h.1, ?_⟩
  rcases h.2 with h0 | ⟨g, cap, cur, rfl, hB, hg, r⟩
  · exact .inl h0
  · exact .inr ⟨g, cap, cur, rfl, hB, (hk g rfl).trans hg, r⟩
theorem tcells_len (l : List Tok) : (tcells l).length = l.length * 4 := by
  induction l with
  | nil => rfl
  | cons t l ih =>
    show (tcell t ++ tcells l).length = _
    rw [List.length_append, ih, List.length_cons]
    simp [tcell]; omega
/-- The tokens so far: a slice in the variable at block L, its row in new memory. -/
structure LSt (B : Nat) (W : World) (L : Nat) (acc : List Tok) : Prop where
  lt : L < B
  sz : B ≤ W.heap.size
  cell : ∃ v, W.cell? ⟨L, 0, none⟩ = some v ∧ W.frozen? ⟨L, 0, none⟩ = false ∧ W.ownsRow B 56 4 v acc.length (tcells acc)
  kinds : ∀ t ∈ acc, 1 ≤ t.1 ∧ t.1 ≤ 7
theorem LSt.below {B : Nat} {W W' : World} {L : Nat} {acc : List Tok} (h : LSt B W L acc) (hb : Below W.heap.size W W') : LSt B W' L acc := by
  obtain ⟨v, h1, h2, h3⟩ := h.cell
  have hL : L < W.heap.size := Nat.lt_of_lt_of_le h.lt h.sz
  refine ⟨h.lt, Nat.le_trans h.sz hb.size, ⟨v, cell_keep2 hb h1, ?_, ownsRow_below h3 hb⟩, h.kinds⟩
  rw [hb.frozen (p := ⟨L, 0, none⟩) hL]; exact h2
theorem frozen_block {w w' : World} {a : Nat} (h : w'.heap[a]? = w.heap[a]?) (i : Nat) : w'.frozen? ⟨a, i, none⟩ = w.frozen? ⟨a, i, none⟩ := by
  simp only [World.frozen?, h]
theorem lset {B : Nat} {W W' : World} {L : Nat} {acc acc' : List Tok} {v v' : Value} (h : LSt B W L acc) (hown : W.ownsRow B 56 4 v acc.length (tcells acc)) (hg : W.grownBy W' v.ownBlock) (hown' : W'.ownsRow B 56 4 v' acc'.length (tcells acc')) (hk : ∀ t ∈ acc', 1 ≤ t.1 ∧ t.1 ≤ 7) : LSt B (W'.setCell ⟨L, 0, none⟩ v') L acc' ∧ Below L W (W'.setCell ⟨L, 0, none⟩ v') := by
  obtain ⟨u, h1, h2, h3⟩ := h.cell
  have hL : L < W.heap.size := Nat.lt_of_lt_of_le h.lt h.sz
  have hblk : W'.heap[L]? = W.heap[L]? := hg.block L hL (own_far hown L (.inl h.lt))
  have c1 : W'.cell? ⟨L, 0, none⟩ = some u := (cell_block hblk 0).trans h1
  have c2 : W'.frozen? ⟨L, 0, none⟩ = false := (frozen_block hblk 0).trans h2
  have hbl : Below L W W' := Below.grown (Below.refl _ _) hg (Nat.le_of_lt hL) (fun j ej => by have := (World.ownsRow.lt hown j ej).1; have := h.lt; omega)
  have hkeep : ∀ k, v'.ownBlock = some k → k ≠ L := fun k ek e => by
    have := (World.ownsRow.lt hown' k ek).1
    have := h.lt
    omega
  refine ⟨⟨h.lt, ?_, ⟨v', ?_, ?_, ?_⟩, hk⟩, hbl.setCell (Nat.le_refl _) _⟩
  · rw [World.size_setCell]; exact Nat.le_trans h.sz hg.size
  · exact World.cell?_setCell_same' _ _ _ (by rw [c1]; rfl)
  · rw [World.frozen?_setCell]; exact c2
  · exact owns_row_keep hown' (fun k ek => heap_setCell_other _ _ _ _ (hkeep k ek))
end Go.Proofs.YtcbfohokigamfaaGreatDoor
