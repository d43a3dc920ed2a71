/-
  lines' Count, numbered and lineOf AT EVERY TEXT of at most 1000000 bytes: how many lines there are, the line of a number, the line of a place; no memory that was there turns. Condition: the text's length.
-/
import Derived.Test.YtpphkkelikdhkaaDoorLoop
namespace Go.Proofs.YtpphkkelikdhkaaDoor
open Go.RowKit Go.Shelf
attribute [local go_sem] Oper.semAt_some

theorem spans_any (s : ByteArray) (w : World) : Calls Tryd.prog 95 #[.string s] w fun e w' =>
    e = .returned (.func (.func 97) #[] #[.pointer (some ⟨w.heap.size, 0, none⟩)]) ∧ w' = w.alloc (.cells #[.string s] 9) := by
  go_enter Tryd.func95, Tryd.ntmps95
  go_wp2_with fail
  go_ret
  exact ⟨rfl, rfl⟩
end Go.Proofs.YtpphkkelikdhkaaDoor
