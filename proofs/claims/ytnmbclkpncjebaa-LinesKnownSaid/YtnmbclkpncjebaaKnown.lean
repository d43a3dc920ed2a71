/-
  THE WALK OF emendlaw06.LinesKnown, and its helpers row, offset, at at the chapter's texts: true; no memory that was there turns. No condition.
-/
import Derived.Test.YtnmbclkpncjebaaWorks
namespace Go.Proofs.Ytnmbclkpncjebaa
open Go.RowKit

set_option maxRecDepth 100000 in
set_option maxHeartbeats 4000000 in
theorem row_yes (n f t : Nat) (h : (rows threeB.data.toList 0)[n]? = some (f, t)) (w : World) : Calls Try.prog 27 #[.int .i64 (n : Int), .int .i64 (f : Int), .int .i64 (t : Int)] w fun e w' => e = .returned (.bool true) ∧ Below w.heap.size w w' := by
  have HL := Lib.hid (fun w => line_any threeB (by decide) (n : Int) w)
  rw [numV_nat (by omega), Int.toNat_natCast, h] at HL
  simp only [numA, numB, Option.isSome_some] at HL
  clear h
  go_enter Try.func27, Try.ntmps27
  go_wp2_with fail
  refine (three_any _).mono ?_
  rintro e w' ⟨rfl, rfl⟩
  go_wp2_with fail
  refine (HL.out _).mono ?_
  rintro e w1 ⟨rfl, k1⟩
  have B1 := Lib.hid k1
  clear k1
  go_wp2_with fail
  go_ret
  exact ⟨rfl, B1.out⟩
set_option maxRecDepth 100000 in
theorem offset_yes_three (n u k : Nat) (hk : offPF 7 threeB.data.toList n u = k) (w : World) : Calls Try.prog 28 #[.string threeB, .int .i64 (n : Int), .int .i64 (u : Int), .int .i64 (k : Int)] w fun e w' => e = .returned (.bool true) ∧ Below w.heap.size w w' := by
  have HL := Lib.hid (fun w => offset_any threeB (by decide) (n : Int) (u : Int) w)
  unfold offW offE at HL
  rw [if_neg (by omega), if_neg (by omega), off_three _ _ _ hk] at HL
  clear hk
  go_enter Try.func28, Try.ntmps28
  go_wp2_with fail
  refine (HL.out _).mono ?_
  rintro e w1 ⟨rfl, k1⟩
  have B1 := Lib.hid k1
  clear k1
  go_wp2_with fail
  go_ret
  exact ⟨rfl, B1.out⟩
set_option maxRecDepth 100000 in
theorem at_yes_three (p : Int) (n c : Nat) (h1 : lineNF 7 threeB.data.toList (clip threeB.data.toList p) = n) (h2 : charPF 7 threeB.data.toList (clip threeB.data.toList p) = c) (w : World) : Calls Try.prog 29 #[.string threeB, .int .i64 p, .int .i64 (n : Int), .int .i64 (c : Int)] w fun e w' => e = .returned (.bool true) ∧ Below w.heap.size w w' := by
  have HL := Lib.hid (fun w => at_any threeB (by decide) p w)
  rw [(at_three p n c h1 h2).1, (at_three p n c h1 h2).2] at HL
  clear h1 h2
  go_enter Try.func29, Try.ntmps29
  go_wp2_with fail
  refine (HL.out _).mono ?_
  rintro e w1 ⟨rfl, k1⟩
  have B1 := Lib.hid k1
  clear k1
  go_wp2_with fail
  go_ret
  exact ⟨rfl, B1.out⟩
set_option maxRecDepth 100000 in
theorem offset_yes_four (n u k : Nat) (hk : offPF 6 fourB.data.toList n u = k) (w : World) : Calls Try.prog 28 #[.string fourB, .int .i64 (n : Int), .int .i64 (u : Int), .int .i64 (k : Int)] w fun e w' => e = .returned (.bool true) ∧ Below w.heap.size w w' := by
  have HL := Lib.hid (fun w => offset_any fourB (by decide) (n : Int) (u : Int) w)
  unfold offW offE at HL
  rw [if_neg (by omega), if_neg (by omega), off_four _ _ _ hk] at HL
  clear hk
  go_enter Try.func28, Try.ntmps28
  go_wp2_with fail
  refine (HL.out _).mono ?_
  rintro e w1 ⟨rfl, k1⟩
  have B1 := Lib.hid k1
  clear k1
  go_wp2_with fail
  go_ret
  exact ⟨rfl, B1.out⟩
set_option maxRecDepth 100000 in
theorem at_yes_four (p : Int) (n c : Nat) (h1 : lineNF 6 fourB.data.toList (clip fourB.data.toList p) = n) (h2 : charPF 6 fourB.data.toList (clip fourB.data.toList p) = c) (w : World) : Calls Try.prog 29 #[.string fourB, .int .i64 p, .int .i64 (n : Int), .int .i64 (c : Int)] w fun e w' => e = .returned (.bool true) ∧ Below w.heap.size w w' := by
  have HL := Lib.hid (fun w => at_any fourB (by decide) p w)
  rw [(at_four p n c h1 h2).1, (at_four p n c h1 h2).2] at HL
  clear h1 h2
  go_enter Try.func29, Try.ntmps29
  go_wp2_with fail
  refine (HL.out _).mono ?_
  rintro e w1 ⟨rfl, k1⟩
  have B1 := Lib.hid k1
  clear k1
  go_wp2_with fail
  go_ret
  exact ⟨rfl, B1.out⟩
theorem line_four (w : World) : Calls Try.prog 13 #[.string threeB, .int .i64 4] w fun e w' => e = .returned (.tuple #[.int .i64 0, .int .i64 0, .bool false]) ∧ Below w.heap.size w w' := by
  have h := line_any threeB (by decide) 4 w
  rw [numV_nat (by decide), rows_three] at h
  exact h
theorem count_none (w : World) : Calls Try.prog 14 #[.string ⟨#[]⟩] w fun e w' => e = .returned (.int .i64 1) ∧ Below w.heap.size w w' := by
  have h := count_any ⟨#[]⟩ (by decide) w
  rw [rows_none] at h
  exact h
theorem offset_bad (w : World) : Calls Try.prog 15 #[.string threeB, .agg #[.int .i64 0, .int .i64 (-1)]] w fun e w' => e = .returned (.tuple #[.int .i64 0, .int .i64 2]) ∧ Below w.heap.size w w' := by
  have h := offset_any threeB (by decide) 0 (-1) w
  unfold offW offE at h
  rw [if_pos (by omega), if_pos (by omega)] at h
  exact h
theorem cut_good (w : World) : Calls Try.prog 20 #[.string threeB, .agg #[.int .i64 0, .int .i64 1, .int .i64 1, .int .i64 1]] w fun e w' => e = .returned (.tuple #[.int .i64 1, .int .i64 5, .int .i64 0]) ∧ Below w.heap.size w w' := by
  have h := cut_any threeB (by decide) 0 1 1 1 w
  have e0 : cutE threeB.data.toList 0 1 1 1 = 0 := by unfold cutE; rw [if_neg (by omega), if_neg (by omega), off_three 1 1 5 (by kernel_rfl), off_three 0 1 1 (by kernel_rfl)]; rfl
  rw [(cut_ok e0).1, (cut_ok e0).2, e0, off_three 1 1 5 (by kernel_rfl), off_three 0 1 1 (by kernel_rfl)] at h
  exact h
theorem cut_bad_three (w : World) : Calls Try.prog 20 #[.string threeB, .agg #[.int .i64 1, .int .i64 0, .int .i64 0, .int .i64 0]] w fun e w' => e = .returned (.tuple #[.int .i64 0, .int .i64 0, .int .i64 2]) ∧ Below w.heap.size w w' := by
  have h := cut_any threeB (by decide) 1 0 0 0 w
  have e0 : cutE threeB.data.toList 1 0 0 0 = 2 := by unfold cutE; rw [if_neg (by omega), if_neg (by omega), off_three 1 0 4 (by kernel_rfl), off_three 0 0 0 (by kernel_rfl)]; rfl
  rw [(cut_bad e0).1, (cut_bad e0).2, e0] at h
  exact h
set_option maxRecDepth 100000 in
set_option maxHeartbeats 16000000 in
theorem linesKnown_walk (w : World) : Calls Try.prog 9 #[] w fun e w' => e = .returned (.bool true) ∧ Below w.heap.size w w' := by
  go_enter Try.func9, Try.ntmps9
  go_wp2_with fail
  refine (three_any _).mono ?_
  rintro e w' ⟨rfl, rfl⟩
  go_wp2_with fail
  refine (line_four _).mono ?_
  rintro e w1 ⟨rfl, k1⟩
  have B1 := Lib.hid k1
  clear k1
  go_wp2_with fail
  refine (works_any _).mono ?_
  rintro e w2 ⟨rfl, k2⟩
  have B2 := Lib.hid (B1.out.trans (k2.mono B1.out.size))
  clear k2 B1
  go_wp2_with fail
  refine (count_none _).mono ?_
  rintro e w3 ⟨rfl, k3⟩
  have B3 := Lib.hid (B2.out.trans (k3.mono B2.out.size))
  clear k3 B2
  go_wp2_with fail
  refine (row_yes 0 0 2 (by rw [rows_three]; rfl) _).mono ?_
  rintro e w4 ⟨rfl, k4⟩
  have B4 := Lib.hid (B3.out.trans (k4.mono B3.out.size))
  clear k4 B3
  go_wp2_with fail
  refine (row_yes 1 4 5 (by rw [rows_three]; rfl) _).mono ?_
  rintro e w5 ⟨rfl, k5⟩
  have B5 := Lib.hid (B4.out.trans (k5.mono B4.out.size))
  clear k5 B4
  go_wp2_with fail
  refine (row_yes 2 6 6 (by rw [rows_three]; rfl) _).mono ?_
  rintro e w6 ⟨rfl, k6⟩
  have B6 := Lib.hid (B5.out.trans (k6.mono B5.out.size))
  clear k6 B5
  go_wp2_with fail
  refine (row_yes 3 7 7 (by rw [rows_three]; rfl) _).mono ?_
  rintro e w7 ⟨rfl, k7⟩
  have B7 := Lib.hid (B6.out.trans (k7.mono B6.out.size))
  clear k7 B6
  go_wp2_with fail
  refine (offset_yes_three 0 1 1 (by kernel_rfl) _).mono ?_
  rintro e w8 ⟨rfl, k8⟩
  have B8 := Lib.hid (B7.out.trans (k8.mono B7.out.size))
  clear k8 B7
  go_wp2_with fail
  refine (offset_yes_three 0 9 2 (by kernel_rfl) _).mono ?_
  rintro e w9 ⟨rfl, k9⟩
  have B9 := Lib.hid (B8.out.trans (k9.mono B8.out.size))
  clear k9 B8
  go_wp2_with fail
  refine (offset_yes_three 1 0 4 (by kernel_rfl) _).mono ?_
  rintro e w10 ⟨rfl, k10⟩
  have B10 := Lib.hid (B9.out.trans (k10.mono B9.out.size))
  clear k10 B9
  go_wp2_with fail
  refine (offset_yes_three 3 0 7 (by kernel_rfl) _).mono ?_
  rintro e w11 ⟨rfl, k11⟩
  have B11 := Lib.hid (B10.out.trans (k11.mono B10.out.size))
  clear k11 B10
  go_wp2_with fail
  refine (offset_yes_three 9 9 7 (by kernel_rfl) _).mono ?_
  rintro e w12 ⟨rfl, k12⟩
  have B12 := Lib.hid (B11.out.trans (k12.mono B11.out.size))
  clear k12 B11
  go_wp2_with fail
  refine (offset_yes_four 0 2 1 (by kernel_rfl) _).mono ?_
  rintro e w13 ⟨rfl, k13⟩
  have B13 := Lib.hid (B12.out.trans (k13.mono B12.out.size))
  clear k13 B12
  go_wp2_with fail
  refine (offset_yes_four 0 3 5 (by kernel_rfl) _).mono ?_
  rintro e w14 ⟨rfl, k14⟩
  have B14 := Lib.hid (B13.out.trans (k14.mono B13.out.size))
  clear k14 B13
  go_wp2_with fail
  refine (at_yes_three (0) 0 0 (by kernel_rfl) (by kernel_rfl) _).mono ?_
  rintro e w15 ⟨rfl, k15⟩
  have B15 := Lib.hid (B14.out.trans (k15.mono B14.out.size))
  clear k15 B14
  go_wp2_with fail
  refine (at_yes_three (2) 0 2 (by kernel_rfl) (by kernel_rfl) _).mono ?_
  rintro e w16 ⟨rfl, k16⟩
  have B16 := Lib.hid (B15.out.trans (k16.mono B15.out.size))
  clear k16 B15
  go_wp2_with fail
  refine (at_yes_three (4) 1 0 (by kernel_rfl) (by kernel_rfl) _).mono ?_
  rintro e w17 ⟨rfl, k17⟩
  have B17 := Lib.hid (B16.out.trans (k17.mono B16.out.size))
  clear k17 B16
  go_wp2_with fail
  refine (at_yes_three (6) 2 0 (by kernel_rfl) (by kernel_rfl) _).mono ?_
  rintro e w18 ⟨rfl, k18⟩
  have B18 := Lib.hid (B17.out.trans (k18.mono B17.out.size))
  clear k18 B17
  go_wp2_with fail
  refine (at_yes_three (99) 3 0 (by kernel_rfl) (by kernel_rfl) _).mono ?_
  rintro e w19 ⟨rfl, k19⟩
  have B19 := Lib.hid (B18.out.trans (k19.mono B18.out.size))
  clear k19 B18
  go_wp2_with fail
  refine (at_yes_three (-1) 0 0 (by kernel_rfl) (by kernel_rfl) _).mono ?_
  rintro e w20 ⟨rfl, k20⟩
  have B20 := Lib.hid (B19.out.trans (k20.mono B19.out.size))
  clear k20 B19
  go_wp2_with fail
  refine (at_yes_four (5) 0 3 (by kernel_rfl) (by kernel_rfl) _).mono ?_
  rintro e w21 ⟨rfl, k21⟩
  have B21 := Lib.hid (B20.out.trans (k21.mono B20.out.size))
  clear k21 B20
  go_wp2_with fail
  refine (at_yes_four (3) 0 1 (by kernel_rfl) (by kernel_rfl) _).mono ?_
  rintro e w22 ⟨rfl, k22⟩
  have B22 := Lib.hid (B21.out.trans (k22.mono B21.out.size))
  clear k22 B21
  go_wp2_with fail
  refine (offset_bad _).mono ?_
  rintro e w23 ⟨rfl, k23⟩
  have B23 := Lib.hid (B22.out.trans (k23.mono B22.out.size))
  clear k23 B22
  go_wp2_with fail
  refine (cut_good _).mono ?_
  rintro e w24 ⟨rfl, k24⟩
  have B24 := Lib.hid (B23.out.trans (k24.mono B23.out.size))
  clear k24 B23
  go_wp2_with fail
  refine (cut_bad_three _).mono ?_
  rintro e w25 ⟨rfl, k25⟩
  have B25 := Lib.hid (B24.out.trans (k25.mono B24.out.size))
  clear k25 B24
  go_wp2_with fail
  refine (works_any _).mono ?_
  rintro e w26 ⟨rfl, k26⟩
  have B26 := Lib.hid (B25.out.trans (k26.mono B25.out.size))
  clear k26 B25
  go_wp2_with fail
  go_ret
  exact ⟨rfl, B26.out⟩
end Go.Proofs.Ytnmbclkpncjebaa
