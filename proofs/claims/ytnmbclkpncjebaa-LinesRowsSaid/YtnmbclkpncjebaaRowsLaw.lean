/-
  THE WALK OF emendlaw06.LinesRows: at every text and number it returns true; no memory that was there turns. No condition.
-/
import Derived.Test.YtnmbclkpncjebaaWorks
import Derived.Test.YtnmbclkpncjebaaRefPlace
namespace Go.Proofs.Ytnmbclkpncjebaa
open Go.RowKit

set_option maxRecDepth 100000 in
set_option maxHeartbeats 4000000 in
theorem linesRows_walk (s : ByteArray) (n : Int) (w : World) : Calls Try.prog 3 #[.string s, .int .i64 n] w fun e w' => e = .returned (.bool true) ∧ Below w.heap.size w w' := by
  by_cases hs : 3000 < s.size
  · go_enter Try.func3, Try.ntmps3
    go_wp2_with fail
    refine (long_yes s hs _).mono ?_
    rintro e w' ⟨rfl, rfl⟩
    go_wp2_with fail
    refine (works_any _).mono ?_
    rintro e w1 ⟨rfl, k1⟩
    go_wp2_with fail
    go_ret
    exact ⟨rfl, k1⟩
  have HG := Lib.hid (long_no s (by omega))
  have HP := Lib.hid (fun w => refLines_any s (by omega) w)
  have HL := Lib.hid (fun w => line_any s (by omega) n w)
  have HC := Lib.hid (fun w => count_any s (by omega) w)
  unfold LinesEnd at HP
  have hlen := rows_len s.data.toList 0
  rw [show s.data.toList.length = s.size from rfl] at hlen
  cases hv : numV s.data.toList n with
  | none =>
    rw [hv] at HL
    simp only [numA, numB, Option.isSome_none] at HL
    have hno : n < 0 ∨ ¬ n < 0 ∧ ((rows s.data.toList 0).length : Int) ≤ n := by
      by_cases h0 : n < 0
      · exact .inl h0
      · refine .inr ⟨h0, ?_⟩
        rw [numV_nat h0, List.getElem?_eq_none_iff] at hv
        omega
    clear hv
    generalize rows s.data.toList 0 = rs at *
    rcases hno with h0 | ⟨h0, h1⟩
    · have d0 : decide (n < 0) = true := decide_eq_true h0
      go_enter Try.func3, Try.ntmps3
      go_wp2_with fail
      refine (HG.out _).mono ?_
      rintro e w' ⟨rfl, rfl⟩
      go_wp2_with fail
      refine (HP.out _).mono ?_
      rintro e w1 ⟨v, rfl, hown, k1⟩
      obtain ⟨A, cap, rfl, hrd⟩ := rreads_of hown
      have B1 := Lib.hid k1
      clear k1 hown hrd
      go_wp2_with fail
      refine (HL.out _).mono ?_
      rintro e w2 ⟨rfl, k2⟩
      have B2 := Lib.hid (B1.out.trans (k2.mono B1.out.size))
      clear k2 B1
      go_wp2_with fail
      refine (HC.out _).mono ?_
      rintro e w3 ⟨rfl, k3⟩
      have B3 := Lib.hid (B2.out.trans (k3.mono B2.out.size))
      clear k3 B2
      go_wp2_with fail
      refine (works_any _).mono ?_
      rintro e w4 ⟨rfl, k4⟩
      have B4 := Lib.hid (B3.out.trans (k4.mono B3.out.size))
      clear k4 B3
      go_wp2_with fail
      go_ret
      exact ⟨rfl, B4.out⟩
    · have d0 : decide (n < 0) = false := decide_eq_false h0
      go_enter Try.func3, Try.ntmps3
      go_wp2_with fail
      refine (HG.out _).mono ?_
      rintro e w' ⟨rfl, rfl⟩
      go_wp2_with fail
      refine (HP.out _).mono ?_
      rintro e w1 ⟨v, rfl, hown, k1⟩
      obtain ⟨A, cap, rfl, hrd⟩ := rreads_of hown
      have B1 := Lib.hid k1
      clear k1 hown hrd
      go_wp2_with fail
      refine (HL.out _).mono ?_
      rintro e w2 ⟨rfl, k2⟩
      have B2 := Lib.hid (B1.out.trans (k2.mono B1.out.size))
      clear k2 B1
      go_wp2_with fail
      refine (HC.out _).mono ?_
      rintro e w3 ⟨rfl, k3⟩
      have B3 := Lib.hid (B2.out.trans (k3.mono B2.out.size))
      clear k3 B2
      go_wp2_with fail
      refine (works_any _).mono ?_
      rintro e w4 ⟨rfl, k4⟩
      have B4 := Lib.hid (B3.out.trans (k4.mono B3.out.size))
      clear k4 B3
      go_wp2_with fail
      go_ret
      exact ⟨rfl, B4.out⟩
  | some r =>
    rw [hv] at HL
    obtain ⟨f, t⟩ := r
    simp only [numA, numB, Option.isSome_some] at HL
    have h0 : ¬ n < 0 := fun h => by unfold numV at hv; rw [if_pos h] at hv; cases hv
    rw [numV_nat h0] at hv
    obtain ⟨m, rfl⟩ := Int.eq_ofNat_of_zero_le (show 0 ≤ n by omega)
    rw [Int.toNat_natCast] at hv
    have hlt : m < (rows s.data.toList 0).length := (List.getElem?_eq_some_iff.1 hv).1
    have HV := Lib.hid hv
    clear hv
    generalize rows s.data.toList 0 = rs at *
    go_enter Try.func3, Try.ntmps3
    go_wp2_with fail
    refine (HG.out _).mono ?_
    rintro e w' ⟨rfl, rfl⟩
    go_wp2_with fail
    refine (HP.out _).mono ?_
    rintro e w1 ⟨v, rfl, hown, k1⟩
    obtain ⟨A, cap, rfl, hrd⟩ := rreads_of hown
    obtain ⟨g, rfl, hc⟩ := hrd (by omega)
    have C0 := Lib.hid (hc m _ HV.out).1
    have C1 := Lib.hid (hc m _ HV.out).2
    have B1 := Lib.hid k1
    clear k1 hown hrd hc
    go_wp2_with fail
    refine (HL.out _).mono ?_
    rintro e w2 ⟨rfl, k2⟩
    have D0 := Lib.hid (cell_keep k2 C0.out)
    have D1 := Lib.hid (cell_keep k2 C1.out)
    have B2 := Lib.hid (B1.out.trans (k2.mono B1.out.size))
    clear k2 B1 C0 C1
    go_wp2_with fail
    refine (HC.out _).mono ?_
    rintro e w3 ⟨rfl, k3⟩
    have c0 := cell_keep k3 D0.out
    have c1 := cell_keep k3 D1.out
    have B3 := Lib.hid (B2.out.trans (k3.mono B2.out.size))
    clear k3 B2 D0 D1
    go_wp2_with fail
    refine (works_any _).mono ?_
    rintro e w4 ⟨rfl, k4⟩
    have B4 := Lib.hid (B3.out.trans (k4.mono B3.out.size))
    clear k4 B3
    go_wp2_with fail
    go_ret
    exact ⟨rfl, B4.out⟩
end Go.Proofs.Ytnmbclkpncjebaa
