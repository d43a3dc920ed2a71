/-
  lines' Line AT EVERY TEXT of at most 1000000 bytes, every number; no memory that was there turns. Condition: the text's length.
-/
import Derived.Test.YtnmbclkpncjebaaPlace
namespace Go.Proofs.Ytnmbclkpncjebaa
open Go.RowKit Go.Shelf

set_option maxRecDepth 100000 in
set_option maxHeartbeats 1000000 in
theorem line_any (s : ByteArray) (hs : s.size ≤ 1000000) (q : Int) (w : World) : Calls Try.prog 13 #[.string s, .int .i64 q] w fun e w' =>
    e = .returned (.tuple #[.int .i64 (numA (numV s.data.toList q)), .int .i64 (numB (numV s.data.toList q)), .bool (numV s.data.toList q).isSome]) ∧ Below w.heap.size w w' := by
  have HC := Lib.hid (numbered_any s hs q w)
  generalize numA (numV s.data.toList q) = a at *
  generalize numB (numV s.data.toList q) = b at *
  generalize (numV s.data.toList q).isSome = o at *
  go_enter Try.func13, Try.ntmps13
  go_wp2_with fail
  refine HC.out.mono ?_
  rintro e w1 ⟨rfl, hb⟩
  have HB := Lib.hid hb
  clear hb
  go_wp2_with fail
  go_region
  all_goals
    go_wp2_with fail
    go_ret3
    exact ⟨rfl, ((HB.out.trans ((alloc_below w1 _).mono HB.out.size))).drew⟩
end Go.Proofs.Ytnmbclkpncjebaa
