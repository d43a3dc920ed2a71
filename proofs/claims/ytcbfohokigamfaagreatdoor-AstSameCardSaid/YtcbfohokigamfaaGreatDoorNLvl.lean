/-
  ast's levelOf, isOperator at every text: what they return; the world is as it was. (Written by wip/tools/genlvl10.py.)
-/
import Derived.Test.YtcbfohokigamfaaGreatDoorNMade2
namespace Go.Proofs.YtcbfohokigamfaaGreatDoor
open Go.RowKit

set_option maxRecDepth 100000 in
set_option maxHeartbeats 4000000 in
theorem levelOf_any (s : ByteArray) (w : World) : Calls Tryz.prog 197 #[.string s] w fun e w' => e = .returned (.int .i64 (lvl s)) ∧ w = w' := by
  by_cases h0 : s.data.toList = [124, 124]
  · have HL : Hid (lvl s = 1) := Lib.hid (by unfold lvl wdB; rw [h0]; rfl)
    have e0 : (s.toList == [124, 124]) = true := tl_eq h0
    clear h0
    go_enter Tryz.func197, Tryz.ntmps197
    go_wp2_with fail
    go_ret
    exact ⟨by rw [HL.out]; rfl, rfl⟩
  by_cases h1 : s.data.toList = [38, 38]
  · have HL : Hid (lvl s = 2) := Lib.hid (by unfold lvl wdB; rw [h1]; rfl)
    have e0 : (s.toList == [124, 124]) = false := tl_no h0
    have e1 : (s.toList == [38, 38]) = true := tl_eq h1
    clear h0 h1
    go_enter Tryz.func197, Tryz.ntmps197
    go_wp2_with fail
    go_ret
    exact ⟨by rw [HL.out]; rfl, rfl⟩
  by_cases h2 : s.data.toList = [61, 61]
  · have HL : Hid (lvl s = 3) := Lib.hid (by unfold lvl wdB; rw [h2]; rfl)
    have e0 : (s.toList == [124, 124]) = false := tl_no h0
    have e1 : (s.toList == [38, 38]) = false := tl_no h1
    have e2 : (s.toList == [61, 61]) = true := tl_eq h2
    clear h0 h1 h2
    go_enter Tryz.func197, Tryz.ntmps197
    go_wp2_with fail
    go_ret
    exact ⟨by rw [HL.out]; rfl, rfl⟩
  by_cases h3 : s.data.toList = [33, 61]
  · have HL : Hid (lvl s = 3) := Lib.hid (by unfold lvl wdB; rw [h3]; rfl)
    have e0 : (s.toList == [124, 124]) = false := tl_no h0
    have e1 : (s.toList == [38, 38]) = false := tl_no h1
    have e2 : (s.toList == [61, 61]) = false := tl_no h2
    have e3 : (s.toList == [33, 61]) = true := tl_eq h3
    clear h0 h1 h2 h3
    go_enter Tryz.func197, Tryz.ntmps197
    go_wp2_with fail
    go_ret
    exact ⟨by rw [HL.out]; rfl, rfl⟩
  by_cases h4 : s.data.toList = [60]
  · have HL : Hid (lvl s = 3) := Lib.hid (by unfold lvl wdB; rw [h4]; rfl)
    have e0 : (s.toList == [124, 124]) = false := tl_no h0
    have e1 : (s.toList == [38, 38]) = false := tl_no h1
    have e2 : (s.toList == [61, 61]) = false := tl_no h2
    have e3 : (s.toList == [33, 61]) = false := tl_no h3
    have e4 : (s.toList == [60]) = true := tl_eq h4
    clear h0 h1 h2 h3 h4
    go_enter Tryz.func197, Tryz.ntmps197
    go_wp2_with fail
    go_ret
    exact ⟨by rw [HL.out]; rfl, rfl⟩
  by_cases h5 : s.data.toList = [60, 61]
  · have HL : Hid (lvl s = 3) := Lib.hid (by unfold lvl wdB; rw [h5]; rfl)
    have e0 : (s.toList == [124, 124]) = false := tl_no h0
    have e1 : (s.toList == [38, 38]) = false := tl_no h1
    have e2 : (s.toList == [61, 61]) = false := tl_no h2
    have e3 : (s.toList == [33, 61]) = false := tl_no h3
    have e4 : (s.toList == [60]) = false := tl_no h4
    have e5 : (s.toList == [60, 61]) = true := tl_eq h5
    clear h0 h1 h2 h3 h4 h5
    go_enter Tryz.func197, Tryz.ntmps197
    go_wp2_with fail
    go_ret
    exact ⟨by rw [HL.out]; rfl, rfl⟩
  by_cases h6 : s.data.toList = [62]
  · have HL : Hid (lvl s = 3) := Lib.hid (by unfold lvl wdB; rw [h6]; rfl)
    have e0 : (s.toList == [124, 124]) = false := tl_no h0
    have e1 : (s.toList == [38, 38]) = false := tl_no h1
    have e2 : (s.toList == [61, 61]) = false := tl_no h2
    have e3 : (s.toList == [33, 61]) = false := tl_no h3
    have e4 : (s.toList == [60]) = false := tl_no h4
    have e5 : (s.toList == [60, 61]) = false := tl_no h5
    have e6 : (s.toList == [62]) = true := tl_eq h6
    clear h0 h1 h2 h3 h4 h5 h6
    go_enter Tryz.func197, Tryz.ntmps197
    go_wp2_with fail
    go_ret
    exact ⟨by rw [HL.out]; rfl, rfl⟩
  by_cases h7 : s.data.toList = [62, 61]
  · have HL : Hid (lvl s = 3) := Lib.hid (by unfold lvl wdB; rw [h7]; rfl)
    have e0 : (s.toList == [124, 124]) = false := tl_no h0
    have e1 : (s.toList == [38, 38]) = false := tl_no h1
    have e2 : (s.toList == [61, 61]) = false := tl_no h2
    have e3 : (s.toList == [33, 61]) = false := tl_no h3
    have e4 : (s.toList == [60]) = false := tl_no h4
    have e5 : (s.toList == [60, 61]) = false := tl_no h5
    have e6 : (s.toList == [62]) = false := tl_no h6
    have e7 : (s.toList == [62, 61]) = true := tl_eq h7
    clear h0 h1 h2 h3 h4 h5 h6 h7
    go_enter Tryz.func197, Tryz.ntmps197
    go_wp2_with fail
    go_ret
    exact ⟨by rw [HL.out]; rfl, rfl⟩
  by_cases h8 : s.data.toList = [43]
  · have HL : Hid (lvl s = 4) := Lib.hid (by unfold lvl wdB; rw [h8]; rfl)
    have e0 : (s.toList == [124, 124]) = false := tl_no h0
    have e1 : (s.toList == [38, 38]) = false := tl_no h1
    have e2 : (s.toList == [61, 61]) = false := tl_no h2
    have e3 : (s.toList == [33, 61]) = false := tl_no h3
    have e4 : (s.toList == [60]) = false := tl_no h4
    have e5 : (s.toList == [60, 61]) = false := tl_no h5
    have e6 : (s.toList == [62]) = false := tl_no h6
    have e7 : (s.toList == [62, 61]) = false := tl_no h7
    have e8 : (s.toList == [43]) = true := tl_eq h8
    clear h0 h1 h2 h3 h4 h5 h6 h7 h8
    go_enter Tryz.func197, Tryz.ntmps197
    go_wp2_with fail
    go_ret
    exact ⟨by rw [HL.out]; rfl, rfl⟩
  by_cases h9 : s.data.toList = [45]
  · have HL : Hid (lvl s = 4) := Lib.hid (by unfold lvl wdB; rw [h9]; rfl)
    have e0 : (s.toList == [124, 124]) = false := tl_no h0
    have e1 : (s.toList == [38, 38]) = false := tl_no h1
    have e2 : (s.toList == [61, 61]) = false := tl_no h2
    have e3 : (s.toList == [33, 61]) = false := tl_no h3
    have e4 : (s.toList == [60]) = false := tl_no h4
    have e5 : (s.toList == [60, 61]) = false := tl_no h5
    have e6 : (s.toList == [62]) = false := tl_no h6
    have e7 : (s.toList == [62, 61]) = false := tl_no h7
    have e8 : (s.toList == [43]) = false := tl_no h8
    have e9 : (s.toList == [45]) = true := tl_eq h9
    clear h0 h1 h2 h3 h4 h5 h6 h7 h8 h9
    go_enter Tryz.func197, Tryz.ntmps197
    go_wp2_with fail
    go_ret
    exact ⟨by rw [HL.out]; rfl, rfl⟩
  by_cases h10 : s.data.toList = [42]
  · have HL : Hid (lvl s = 5) := Lib.hid (by unfold lvl wdB; rw [h10]; rfl)
    have e0 : (s.toList == [124, 124]) = false := tl_no h0
    have e1 : (s.toList == [38, 38]) = false := tl_no h1
    have e2 : (s.toList == [61, 61]) = false := tl_no h2
    have e3 : (s.toList == [33, 61]) = false := tl_no h3
    have e4 : (s.toList == [60]) = false := tl_no h4
    have e5 : (s.toList == [60, 61]) = false := tl_no h5
    have e6 : (s.toList == [62]) = false := tl_no h6
    have e7 : (s.toList == [62, 61]) = false := tl_no h7
    have e8 : (s.toList == [43]) = false := tl_no h8
    have e9 : (s.toList == [45]) = false := tl_no h9
    have e10 : (s.toList == [42]) = true := tl_eq h10
    clear h0 h1 h2 h3 h4 h5 h6 h7 h8 h9 h10
    go_enter Tryz.func197, Tryz.ntmps197
    go_wp2_with fail
    go_ret
    exact ⟨by rw [HL.out]; rfl, rfl⟩
  by_cases h11 : s.data.toList = [47]
  · have HL : Hid (lvl s = 5) := Lib.hid (by unfold lvl wdB; rw [h11]; rfl)
    have e0 : (s.toList == [124, 124]) = false := tl_no h0
    have e1 : (s.toList == [38, 38]) = false := tl_no h1
    have e2 : (s.toList == [61, 61]) = false := tl_no h2
    have e3 : (s.toList == [33, 61]) = false := tl_no h3
    have e4 : (s.toList == [60]) = false := tl_no h4
    have e5 : (s.toList == [60, 61]) = false := tl_no h5
    have e6 : (s.toList == [62]) = false := tl_no h6
    have e7 : (s.toList == [62, 61]) = false := tl_no h7
    have e8 : (s.toList == [43]) = false := tl_no h8
    have e9 : (s.toList == [45]) = false := tl_no h9
    have e10 : (s.toList == [42]) = false := tl_no h10
    have e11 : (s.toList == [47]) = true := tl_eq h11
    clear h0 h1 h2 h3 h4 h5 h6 h7 h8 h9 h10 h11
    go_enter Tryz.func197, Tryz.ntmps197
    go_wp2_with fail
    go_ret
    exact ⟨by rw [HL.out]; rfl, rfl⟩
  by_cases h12 : s.data.toList = [37]
  · have HL : Hid (lvl s = 5) := Lib.hid (by unfold lvl wdB; rw [h12]; rfl)
    have e0 : (s.toList == [124, 124]) = false := tl_no h0
    have e1 : (s.toList == [38, 38]) = false := tl_no h1
    have e2 : (s.toList == [61, 61]) = false := tl_no h2
    have e3 : (s.toList == [33, 61]) = false := tl_no h3
    have e4 : (s.toList == [60]) = false := tl_no h4
    have e5 : (s.toList == [60, 61]) = false := tl_no h5
    have e6 : (s.toList == [62]) = false := tl_no h6
    have e7 : (s.toList == [62, 61]) = false := tl_no h7
    have e8 : (s.toList == [43]) = false := tl_no h8
    have e9 : (s.toList == [45]) = false := tl_no h9
    have e10 : (s.toList == [42]) = false := tl_no h10
    have e11 : (s.toList == [47]) = false := tl_no h11
    have e12 : (s.toList == [37]) = true := tl_eq h12
    clear h0 h1 h2 h3 h4 h5 h6 h7 h8 h9 h10 h11 h12
    go_enter Tryz.func197, Tryz.ntmps197
    go_wp2_with fail
    go_ret
    exact ⟨by rw [HL.out]; rfl, rfl⟩
  have HL : Hid (lvl s = 0) := Lib.hid (by unfold lvl wdB; simp [h0, h1, h2, h3, h4, h5, h6, h7, h8, h9, h10, h11, h12])
  have e0 : (s.toList == [124, 124]) = false := tl_no h0
  have e1 : (s.toList == [38, 38]) = false := tl_no h1
  have e2 : (s.toList == [61, 61]) = false := tl_no h2
  have e3 : (s.toList == [33, 61]) = false := tl_no h3
  have e4 : (s.toList == [60]) = false := tl_no h4
  have e5 : (s.toList == [60, 61]) = false := tl_no h5
  have e6 : (s.toList == [62]) = false := tl_no h6
  have e7 : (s.toList == [62, 61]) = false := tl_no h7
  have e8 : (s.toList == [43]) = false := tl_no h8
  have e9 : (s.toList == [45]) = false := tl_no h9
  have e10 : (s.toList == [42]) = false := tl_no h10
  have e11 : (s.toList == [47]) = false := tl_no h11
  have e12 : (s.toList == [37]) = false := tl_no h12
  clear h0 h1 h2 h3 h4 h5 h6 h7 h8 h9 h10 h11 h12
  go_enter Tryz.func197, Tryz.ntmps197
  go_wp2_with fail
  go_ret
  exact ⟨by rw [HL.out]; rfl, rfl⟩
theorem lvl_bound (s : ByteArray) : 0 ≤ lvl s ∧ lvl s ≤ 5 := by
  unfold lvl
  repeat' split
  all_goals omega
set_option maxRecDepth 100000 in
theorem isOperator_any (s : ByteArray) (w : World) : Calls Tryz.prog 198 #[.string s] w fun e w' => e = .returned (.bool (opB s)) ∧ Below w.heap.size w w' := by
  have HC := Lib.hid (levelOf_any s w)
  have HO : Hid (opB s = decide (0 < lvl s)) := Lib.hid rfl
  generalize lvl s = k at *
  by_cases h : 0 < k
  · have HD : Hid (decide (0 < k) = true) := Lib.hid (by simpa using h)
    go_enter Tryz.func198, Tryz.ntmps198
    go_wp2_with fail
    refine HC.out.mono ?_
    rintro e w' ⟨rfl, rfl⟩
    go_wp2_with fail
    go_ret
    exact ⟨by rw [HO.out, HD.out]; rfl, Below.refl _ _⟩
  · have HD : Hid (decide (0 < k) = false) := Lib.hid (by simpa using h)
    go_enter Tryz.func198, Tryz.ntmps198
    go_wp2_with fail
    refine HC.out.mono ?_
    rintro e w' ⟨rfl, rfl⟩
    go_wp2_with fail
    go_ret
    exact ⟨by rw [HO.out, HD.out]; rfl, Below.refl _ _⟩
theorem nm_op (O : ByteArray → Prop) (w : World) : NmV O w (.func (.func 198) #[] #[]) opB :=
  ⟨_, _, rfl, enters_of Tryz.func198 (by kernel_rfl) rfl, fun W _ s _ _ => isOperator_any s W⟩
end Go.Proofs.YtcbfohokigamfaaGreatDoor
