/-
  THE CLOSED PART THAT EVERY LAW OF THIS SEAT ASKS (emendlaw06.works), and its helpers long, three: what they return; no memory that was there turns. No condition.
-/
import Derived.Test.YtlgjlfljohapfaaAt
import Derived.Test.YtlgjlfljohapfaaClosed
namespace Go.Proofs.Ytlgjlfljohapfaa
open Go.RowKit

theorem long_no (s : ByteArray) (h : s.size ≤ 3000) (w : World) : Calls Try.prog 33 #[.string s] w fun e w' => e = .returned (.bool false) ∧ w = w' := by
  have d : decide (3000 < (s.size : Int)) = false := by simp; omega
  go_enter Try.func33, Try.ntmps33
  go_wp2_with fail
  go_ret
  exact ⟨by simp, rfl⟩
theorem long_yes (s : ByteArray) (h : 3000 < s.size) (w : World) : Calls Try.prog 33 #[.string s] w fun e w' => e = .returned (.bool true) ∧ w = w' := by
  have d : decide (3000 < (s.size : Int)) = true := by simp; omega
  go_enter Try.func33, Try.ntmps33
  go_wp2_with fail
  go_ret
  exact ⟨by simp, rfl⟩
theorem three_any (w : World) : Calls Try.prog 53 #[] w fun e w' => e = .returned (.string threeB) ∧ w = w' := by
  go_enter Try.func53, Try.ntmps53
  go_wp2_with fail
  go_ret
  exact ⟨rfl, rfl⟩
theorem count_three (w : World) : Calls Try.prog 54 #[.string threeB] w fun e w' => e = .returned (.int .i64 4) ∧ Below w.heap.size w w' := by
  have h := count_any threeB (by decide) w
  rw [rows_three] at h
  exact h
theorem offset_three (n u : Nat) (k : Nat) (hk : offPF 7 threeB.data.toList n u = k) (w : World) : Calls Try.prog 35 #[.string threeB, .agg #[.int .i64 (n : Int), .int .i64 (u : Int)]] w fun e w' => e = .returned (.tuple #[.int .i64 (k : Int), .int .i64 0]) ∧ Below w.heap.size w w' := by
  have h := offset_any threeB (by decide) n u w
  unfold offW offE at h
  rw [if_neg (by omega), if_neg (by omega), off_three _ _ _ hk] at h
  exact h
theorem at_three_any (p : Int) (n c : Nat) (h1 : lineNF 7 threeB.data.toList (clip threeB.data.toList p) = n) (h2 : charPF 7 threeB.data.toList (clip threeB.data.toList p) = c) (w : World) : Calls Try.prog 37 #[.string threeB, .int .i64 p] w fun e w' => e = .returned (.agg #[.int .i64 (n : Int), .int .i64 (c : Int)]) ∧ Below w.heap.size w w' := by
  have h := at_any threeB (by decide) p w
  rw [(at_three p n c h1 h2).1, (at_three p n c h1 h2).2] at h
  exact h
set_option maxRecDepth 100000 in
set_option maxHeartbeats 4000000 in
theorem works_any (w : World) : Calls Try.prog 34 #[] w fun e w' => e = .returned (.bool true) ∧ Below w.heap.size w w' := by
  go_enter Try.func34, Try.ntmps34
  go_wp2_with fail
  refine (three_any _).mono ?_
  rintro e w' ⟨rfl, rfl⟩
  go_wp2_with fail
  refine (offset_three 1 5 5 (by kernel_rfl) _).mono ?_
  rintro e w1 ⟨rfl, k1⟩
  have B1 := Lib.hid k1
  clear k1
  go_wp2_with fail
  refine (three_any _).mono ?_
  rintro e w' ⟨rfl, rfl⟩
  go_wp2_with fail
  refine (count_three _).mono ?_
  rintro e w2 ⟨rfl, k2⟩
  have B2 := Lib.hid (B1.out.trans (k2.mono B1.out.size))
  clear k2 B1
  go_wp2_with fail
  refine (three_any _).mono ?_
  rintro e w' ⟨rfl, rfl⟩
  go_wp2_with fail
  refine (at_three_any 3 0 2 (by kernel_rfl) (by kernel_rfl) _).mono ?_
  rintro e w3 ⟨rfl, k3⟩
  have B3 := Lib.hid (B2.out.trans (k3.mono B2.out.size))
  clear k3 B2
  go_wp2_with fail
  refine (three_any _).mono ?_
  rintro e w' ⟨rfl, rfl⟩
  go_wp2_with fail
  refine (at_three_any 7 3 0 (by kernel_rfl) (by kernel_rfl) _).mono ?_
  rintro e w4 ⟨rfl, k4⟩
  have B4 := Lib.hid (B3.out.trans (k4.mono B3.out.size))
  clear k4 B3
  go_wp2_with fail
  go_ret
  exact ⟨rfl, B4.out⟩
end Go.Proofs.Ytlgjlfljohapfaa
