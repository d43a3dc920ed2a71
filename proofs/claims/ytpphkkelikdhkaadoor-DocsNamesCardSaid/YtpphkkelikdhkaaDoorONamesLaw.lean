/-
  DocsNames RETURNS TRUE FOR EVERY TEXT. Condition: what the variables that are read hold (Fx).
-/
import Derived.Test.YtpphkkelikdhkaaDoorOWorks
namespace Go.Proofs.YtpphkkelikdhkaaDoor
open Go.RowKit

set_option maxHeartbeats 1000000 in
theorem names_law (s : ByteArray) (w : World) (hF0 : Fx w) : Calls Tryd.prog 3 #[.string s] w fun e w' => e = .returned (.bool true) ∧ Below w.heap.size w w' := by
  have hF := Lib.hid hF0
  clear hF0
  by_cases h : s.size ≤ 3000
  · have q : ¬ (3000 : Int) < (s.size : Int) := by omega
    have q2 : (s.size : Int) ≤ 3000 := by omega
    have HD := Lib.hid (fun w h1 => dir_any s (by omega) w h1)
    have HR := Lib.hid (fun w => refDir_any s (by omega) w)
    generalize dirS s.data.toList = a at *
    generalize dirB s.data.toList = b at *
    go_enter Tryd.func3, Tryd.ntmps3
    go_wp2_with fail
    refine (HD.out _ hF.out).mono ?_
    rintro e w1 ⟨rfl, hb⟩
    have HB := Lib.hid hb
    clear hb
    go_wp2_with fail
    refine (HR.out _).mono ?_
    rintro e w2 ⟨rfl, hb⟩
    have HB2 := Lib.hid (HB.out.trans (hb.mono HB.out.size))
    clear hb
    go_wp2_with fail
    refine (works_any _ (hF.out.keep HB2.out)).mono ?_
    rintro e w3 ⟨rfl, hb⟩
    have HB3 := Lib.hid (HB2.out.trans (hb.mono HB2.out.size))
    clear hb
    go_wp2_with fail
    go_ret
    exact ⟨rfl, HB3.out⟩
  · have q : (3000 : Int) < (s.size : Int) := by omega
    go_enter Tryd.func3, Tryd.ntmps3
    go_wp2_with fail
    refine (works_any _ hF.out).mono ?_
    rintro e w3 ⟨rfl, hb⟩
    have HB3 := Lib.hid hb
    clear hb
    go_wp2_with fail
    go_ret
    exact ⟨rfl, HB3.out⟩
end Go.Proofs.YtpphkkelikdhkaaDoor
