/-
  docs' isReserved, emendref08's Words, Reserved AT EVERY TEXT: what they return; no memory that was there turns. Condition: the text's length.
-/
import Derived.Test.YtpphkkelikdhkaaDoorOName1
import Derived.OwnWalk
namespace Go.Proofs.YtpphkkelikdhkaaDoor
open Go.RowKit

theorem words_are : wordsL = [[98, 111, 111, 108], [98, 114, 101, 97, 107], [99, 111, 110, 116, 105, 110, 117, 101], [101, 108, 115, 101], [102, 97, 108, 115, 101], [102, 108, 111, 97, 116, 54, 52], [102, 111, 114], [102, 117, 110, 99], [105, 102], [105, 109, 112, 111, 114, 116], [105, 110, 116], [108, 101, 110], [112, 97, 99, 107, 97, 103, 101], [112, 97, 110, 105, 99], [112, 114, 105, 110, 116], [114, 101, 116, 117, 114, 110], [115, 116, 114, 105, 110, 103], [115, 116, 114, 117, 99, 116], [116, 114, 117, 101], [116, 121, 112, 101], [118, 97, 114]] := by kernel_rfl
theorem ba_of {s : ByteArray} {l : List UInt8} (h : s.data.toList = l) : s = ⟨l.toArray⟩ := by
  cases s
  subst h
  simp
set_option maxRecDepth 100000 in
set_option maxHeartbeats 1000000 in
theorem reserved_any (s : ByteArray) (w : World) : Calls Tryd.prog 30 #[.string s] w fun e w' => e = .returned (.bool (resB s.data.toList)) ∧ w = w' := by
  cases hr : resB s.data.toList with
  | true =>
    unfold resB at hr
    rw [words_are] at hr
    have hm : s.data.toList ∈ ([[98, 111, 111, 108], [98, 114, 101, 97, 107], [99, 111, 110, 116, 105, 110, 117, 101], [101, 108, 115, 101], [102, 97, 108, 115, 101], [102, 108, 111, 97, 116, 54, 52], [102, 111, 114], [102, 117, 110, 99], [105, 102], [105, 109, 112, 111, 114, 116], [105, 110, 116], [108, 101, 110], [112, 97, 99, 107, 97, 103, 101], [112, 97, 110, 105, 99], [112, 114, 105, 110, 116], [114, 101, 116, 117, 114, 110], [115, 116, 114, 105, 110, 103], [115, 116, 114, 117, 99, 116], [116, 114, 117, 101], [116, 121, 112, 101], [118, 97, 114]] : List (List UInt8)) := by simpa using hr
    clear hr
    simp only [List.mem_cons, List.not_mem_nil, or_false] at hm
    rcases hm with h | h | h | h | h | h | h | h | h | h | h | h | h | h | h | h | h | h | h | h | h
    all_goals
      obtain rfl := ba_of h
      clear h
      go_enter Tryd.func30, Tryd.ntmps30
      go_wp2_with fail
      go_ret
      exact ⟨rfl, rfl⟩
  | false =>
    unfold resB at hr
    rw [words_are, ← Lib.toList_data] at hr
    simp only [List.contains_cons, List.contains_nil, Bool.or_false, Bool.or_eq_false_iff] at hr
    obtain ⟨h0, h1, h2, h3, h4, h5, h6, h7, h8, h9, h10, h11, h12, h13, h14, h15, h16, h17, h18, h19, h20⟩ := hr
    go_enter Tryd.func30, Tryd.ntmps30
    go_wp2_with fail
    go_ret
    exact ⟨rfl, rfl⟩
end Go.Proofs.YtpphkkelikdhkaaDoor
