/-
  A frame.Reader THAT LIES IN MEMORY (RSt, RBr): the row of bytes that it holds; Push, Held, Broken, isMade, breakUp, drop. Nothing that was there turns but the reader's block and its row's.
-/
import Derived.Test.YtmaihiklcdidbaaDoorBody
import Derived.Deep.AppendSrc
import Derived.Deep.Upon
namespace Go.Proofs.YtmaihiklcdidbaaDoor
open Go.RowKit

def bcell (c : UInt8) : Value := .int .u8 (c.toNat : Int)
/-- A slice that holds bytes, and may be appended to. -/
def Row (W : World) (v : Value) (l : List UInt8) : Prop :=
  (v = .slice none 0 0 ∧ l = []) ∨ ∃ b o cap, v = .slice (some ⟨b, o, none⟩) l.length cap ∧ l.length ≤ cap ∧ cap ≤ maxLen ∧ b < W.heap.size ∧ (∀ j c, l[j]? = some c → W.cell? ⟨b, o + j, none⟩ = some (bcell c)) ∧ ∀ j, j < cap → (W.cell? ⟨b, o + j, none⟩).isSome = true ∧ W.frozen? ⟨b, o + j, none⟩ = false
theorem cell_blk' {W W' : World} {b i : Nat} (h : W'.heap[b]? = W.heap[b]?) : W'.cell? ⟨b, i, none⟩ = W.cell? ⟨b, i, none⟩ := World.cell?_of_block (a := ⟨b, i, none⟩) h
theorem Row.keep {W W' : World} {v : Value} {l : List UInt8} (h : Row W v l) (hs : W.heap.size ≤ W'.heap.size) (hk : ∀ k, k < W.heap.size → v.ownBlock = some k → W'.heap[k]? = W.heap[k]?) : Row W' v l := by
  rcases h with h | ⟨b, o, cap, rfl, h1, h2, h3, h4, h5⟩
  · exact .inl h
  · have hb := hk b h3 rfl
    exact .inr ⟨b, o, cap, rfl, h1, h2, by omega, fun j c hj => (cell_blk' hb).trans (h4 j c hj), fun j hj => ⟨by rw [cell_blk' hb]; exact (h5 j hj).1, (World.frozen?_of_block (a := ⟨b, o + j, none⟩) hb).trans (h5 j hj).2⟩⟩
theorem Row.lt {W : World} {v : Value} {l : List UInt8} (h : Row W v l) {k : Nat} (hk : v.ownBlock = some k) : k < W.heap.size := by
  rcases h with ⟨rfl, _⟩ | ⟨b, o, cap, rfl, h1, h2, h3, h4, h5⟩
  · cases hk
  · cases hk; exact h3
theorem Row.shape {W : World} {v : Value} {l : List UInt8} (h : Row W v l) : ∃ p cap, v = .slice p l.length cap ∧ (p = none → cap = 0) ∧ l.length ≤ cap ∧ cap ≤ maxLen ∧ BIn W p l := by
  rcases h with ⟨rfl, rfl⟩ | ⟨b, o, cap, rfl, h1, h2, h3, h4, h5⟩
  · exact ⟨none, 0, rfl, fun _ => rfl, Nat.le_refl _, by decide, Lib.BytesIn.nil _ _ _⟩
  · refine ⟨some ⟨b, o, none⟩, cap, rfl, (fun hh => by cases hh), h1, h2, fun _ => ⟨b, o, rfl, fun i hi => ?_⟩⟩
    rw [h4 i l[i] (List.getElem?_eq_getElem hi)]
    unfold bcell nums
    rw [List.getD_eq_getElem?_getD, List.getElem?_map, List.getElem?_eq_getElem hi]
    rfl
theorem u8_info : (Tryd.prog.info? 5).map (fun i => (i.zero, i.size, i.bytes)) = some (some (.int .u8 0), 1, 1) := by kernel_rfl
theorem tape_setCells : ∀ (vs : List Value) (w : World) (g o : Nat), (w.setCells g o vs).tape = w.tape
  | [], _, _, _ => rfl
  | v :: vs, w, g, o => (tape_setCells vs (w.setCell ⟨g, o, none⟩ v) g (o + 1)).trans rfl
/-- Bytes more behind a row. -/
theorem Row.append {W : World} {v : Value} {l : List UInt8} (h : Row W v l) (s : ByteArray) (hs : l.length + s.size ≤ 100000000) (ty : TypeId) :
    ∃ v' W', (Builtin.append_ #[42, 9] ty #[v, .string s]).run Tryd.prog W = .ok v' W' ∧ Row W' v' (l ++ s.data.toList) ∧ Fr (fun k => v.ownBlock = some k) W W' ∧ (v'.ownBlock = v.ownBlock ∨ v'.ownBlock = some W.heap.size) := by
  obtain ⟨i0, hi, hz0, hz1, hz2⟩ := info_parts u8_info
  have hsz : s.data.toList.length = s.size := rfl
  have hbl := byteCells_length s
  have hsrc : Src Tryd.prog i0.size 9 (.string s) s.size (byteCells s) W := by rw [hz1]; exact Src.ofString W Tryd.underlying9 s
  have hbc : ∀ j, (byteCells s)[j]? = (s.data.toList[j]?).map bcell := fun j => by unfold byteCells; rw [List.getElem?_map]; rfl
  -- A NEW ROW
  have grow : ∀ (base : Option Addr) (cap : Nat), cap < l.length + s.size → v = .slice base l.length cap → (Builtin.firstCells i0.size l.length (.slice base l.length cap)).run Tryd.prog W.drew = .ok (l.map bcell).toArray W.drew → 
      ∃ v' W', (Builtin.append_ #[42, 9] ty #[v, .string s]).run Tryd.prog W = .ok v' W' ∧ Row W' v' (l ++ s.data.toList) ∧ Fr (fun k => v.ownBlock = some k) W W' ∧ (v'.ownBlock = v.ownBlock ∨ v'.ownBlock = some W.heap.size) := by
    rintro base cap hg rfl hold
    have hrun := run_append_grow_src (P := Tryd.prog) W 42 9 ty 5 i0 (.int .u8 0) Tryd.underlying42 hi hz0 base l.length cap (l.map bcell) hold (.string s) s.size (byteCells s) hsrc hg (by omega) (growslice_fits hg (by rw [hz2]; omega))
    have hge := grownCap_ge W (l.length + s.size) cap 5
    have hcm := grownCap_le_maxLen W (l.length + s.size) cap 5 (by unfold maxLen; omega)
    refine ⟨_, _, hrun, .inr ⟨W.heap.size, 0, _, by rw [List.length_append, hsz], by rw [List.length_append, hsz]; exact hge, hcm, by rw [World.size_alloc]; exact Nat.lt_succ_self _, fun j c hj => ?_, fun j hj => ⟨?_, ?_⟩⟩, drew_fr.trans ((Fr.refl _ W.drew).alloc _), .inr rfl⟩
    · rw [Nat.zero_add]
      have e1 := World.cell?_alloc_new W.drew (((l.map bcell) ++ byteCells s).toArray ++ Builtin.zeroCells (Value.int .u8 0).cells (grownCap W (l.length + s.size) cap 5 - (l.length + s.size))) 5 j
      have hjl := (List.getElem?_eq_some_iff.1 hj).1
      rw [List.length_append, hsz] at hjl
      rw [show W.drew.heap.size = W.heap.size from rfl] at e1
      rw [e1, Array.getElem?_append_left (by rw [List.size_toArray, List.length_append, List.length_map, hbl]; omega), List.getElem?_toArray]
      rcases Nat.lt_or_ge j l.length with hjl2 | hjl2
      · rw [List.getElem?_append_left hjl2] at hj
        rw [List.getElem?_append_left (by rw [List.length_map]; exact hjl2), List.getElem?_map, hj]
        rfl
      · rw [List.getElem?_append_right hjl2] at hj
        rw [List.getElem?_append_right (by rw [List.length_map]; exact hjl2), List.length_map, hbc, hj]
        rfl
    · rw [Nat.zero_add]
      have e1 := World.cell?_alloc_new W.drew (((l.map bcell) ++ byteCells s).toArray ++ Builtin.zeroCells (Value.int .u8 0).cells (grownCap W (l.length + s.size) cap 5 - (l.length + s.size))) 5 j
      rw [show W.drew.heap.size = W.heap.size from rfl] at e1
      rw [e1, Array.getElem?_eq_getElem (by
        rw [Array.size_append, List.size_toArray, List.length_append, List.length_map, hbl, size_zeroCells]
        show j < l.length + s.size + (_ - _) * 1
        omega)]
      rfl
    · rw [Nat.zero_add]
      exact World.frozen?_alloc_new W.drew _ _ j
  rcases h with ⟨rfl, rfl⟩ | ⟨b, o, cap, rfl, h1, h2, h3, h4, h5⟩
  · by_cases h0 : s.size = 0
    · refine ⟨.slice none 0 0, W, ?_, .inl ⟨rfl, ?_⟩, Fr.refl _ _, .inl rfl⟩
      · have hb0 : byteCells s = [] := List.eq_nil_of_length_eq_zero (by rw [hbl]; exact h0)
        rw [h0, hb0] at hsrc
        exact run_append_nothing (P := Tryd.prog) W 42 9 ty 5 i0 Tryd.underlying42 hi none 0 0 (Nat.le_refl _) (.string s) hsrc
      · exact List.eq_nil_of_length_eq_zero (by simpa using h0)
    · exact grow none 0 (by simp; omega) rfl (run_firstCells_none W.drew i0.size 0 0 0)
  · by_cases hfit : l.length + s.size ≤ cap
    · have hrun := run_append_room_src (P := Tryd.prog) W 42 9 ty 5 i0 Tryd.underlying42 hi b o l.length cap (.string s) s.size (byteCells s) hsrc hfit
        (fun j hj => by rw [hz1, Nat.mul_one, Nat.add_assoc]; exact (h5 (l.length + j) (by omega)).1) (fun j hj => by rw [hz1, Nat.mul_one, Nat.add_assoc]; exact (h5 (l.length + j) (by omega)).2)
      rw [hz1, Nat.mul_one] at hrun
      have hsome : ∀ j, j < (byteCells s).length → (W.cell? ⟨b, o + l.length + j, none⟩).isSome = true := fun j hj => by rw [Nat.add_assoc]; exact (h5 (l.length + j) (by omega)).1
      have hfr : Fr (fun k => (Value.slice (some ⟨b, o, none⟩) l.length cap).ownBlock = some k) W (W.setCells b (o + l.length) (byteCells s)) := by
        have hk := World.keptBut_setCells b (may := fun p => p.block = b) (byteCells s) (o + l.length) W (fun _ _ => rfl)
        refine ⟨World.os_setCells _ _ _ _, tape_setCells (byteCells s) W b (o + l.length), World.output_setCells _ _ _ _, hk.size, fun k hk2 hx => World.heap_setCells_other W b _ _ hk2 (fun e => hx (by rw [e]; rfl))⟩
      refine ⟨_, _, hrun, .inr ⟨b, o, cap, by rw [List.length_append, hsz], by rw [List.length_append, hsz]; exact hfit, h2, Nat.lt_of_lt_of_le h3 hfr.size, fun j c hj => ?_, fun j hj => ⟨?_, ?_⟩⟩, hfr, .inl rfl⟩
      · rcases Nat.lt_or_ge j l.length with hjl | hjl
        · rw [World.cell?_setCells_out b _ _ _ _ (fun _ _ => Or.inl (by show o + j < o + l.length; omega))]
          rw [List.getElem?_append_left hjl] at hj
          exact h4 j c hj
        · rw [List.getElem?_append_right hjl] at hj
          have hj2 : j - l.length < (byteCells s).length := by rw [hbl, ← hsz]; exact (List.getElem?_eq_some_iff.1 hj).1
          have := World.cell?_setCells_in b (byteCells s) (o + l.length) W hsome (j - l.length) hj2
          rw [show o + l.length + (j - l.length) = o + j by omega] at this
          rw [this, ← List.getElem?_eq_getElem hj2, hbc, hj]
          rfl
      · by_cases hin : l.length ≤ j ∧ j < l.length + (byteCells s).length
        · have := World.cell?_setCells_in b (byteCells s) (o + l.length) W hsome (j - l.length) (by omega)
          rw [show o + l.length + (j - l.length) = o + j by omega] at this
          rw [this]; rfl
        · rw [World.cell?_setCells_out b _ _ _ _ (fun _ _ => by show o + j < o + l.length ∨ o + l.length + (byteCells s).length ≤ o + j; omega)]
          exact (h5 j hj).1
      · exact (World.frozen?_setCells b _ _ _ _).trans (h5 j hj).2
    · refine grow (some ⟨b, o, none⟩) cap (by omega) rfl (run_firstCells_some W.drew i0.size l.length ⟨b, o, none⟩ l.length cap (l.map bcell) (by rw [List.length_map, hz1, Nat.mul_one]) (fun j u hu => ?_))
      rw [Addr.add_lit]
      rw [List.getElem?_map] at hu
      obtain ⟨c, hc, rfl⟩ := Option.map_eq_some_iff.1 hu
      exact h4 j c hc
end Go.Proofs.YtmaihiklcdidbaaDoor
