/-
  frame's lengthIn AT EVERY TEXT: the length that a head tells. No memory that was there turns. Conditions: the text's length; what the variables that are read hold (Facts).
-/
import Derived.Test.YtmaihiklcdidbaaDoorTell
namespace Go.Proofs.YtmaihiklcdidbaaDoor
open Go.RowKit

set_option maxHeartbeats 1000000 in
set_option maxRecDepth 100000 in
theorem lengthIn_any (s : ByteArray) (hs : s.size ≤ 100000000) (w : World) (hF : Facts w) :
    Calls Tryd.prog 30 #[.string s] w fun e w' => e = .returned (.int .i64 (intO (headP s.data.toList))) ∧ Below w.heap.size w w' := by
  have h1 := alloc_top w #[.int .i64 (-1)] 2
  have b1 := alloc_below w (.cells #[.int .i64 (-1)] 2)
  obtain ⟨w1, hw1⟩ : ∃ w1, w1 = w.alloc (.cells #[.int .i64 (-1)] 2) := ⟨_, rfl⟩
  rw [← hw1] at h1 b1
  have hz1 : w1.heap.size = w.heap.size + 1 := by rw [hw1]; simp
  obtain ⟨w2, hw2⟩ : ∃ w2, w2 = w1.alloc (.cells (kCells w.heap.size true true) 69) := ⟨_, rfl⟩
  have b2 := alloc_below w1 (.cells (kCells w.heap.size true true) 69)
  have h2 := alloc_top w1 (kCells w.heap.size true true) 69
  rw [← hw2] at b2 h2
  rw [hz1] at h2
  have HT := Lib.hid (tellAll_any s hs w w2 w.heap.size (w.heap.size + 1) hF (b1.trans (b2.mono b1.size)) (Nat.le_refl _) (by omega) h2 (heap_keep b2 h1))
  rw [hw2, hw1] at HT
  simp only [kCells, lenV, typV, lenF, typF, txt] at HT
  unfold headP
  generalize tellP (splitP s.data.toList) true true none = T at *
  clear h1 b1 h2 b2 hw1 hw2
  go_enter Tryd.func30, Tryd.ntmps30
  go_wp2_with fail
  refine HT.out.mono ?_
  rintro e w3 ⟨rfl, hb3, hl3⟩
  cases T with
  | none =>
    go_wp2_with fail
    go_ret
    exact ⟨rfl, hb3⟩
  | some o =>
    have c3 := cell_at (hl3 o rfl) 0
    go_wp2_with fail
    go_ret
    exact ⟨rfl, hb3⟩
end Go.Proofs.YtmaihiklcdidbaaDoor
