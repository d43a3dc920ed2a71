/-
  THE WALK OF emendlaw06.LinesPlaces: at every text, Pos and place it returns true; no memory that was there turns. No condition.
-/
import Derived.Test.YtnmbclkpncjebaaWorks
import Derived.Test.YtnmbclkpncjebaaRefOffset
import Derived.Test.YtnmbclkpncjebaaRefAt
namespace Go.Proofs.Ytnmbclkpncjebaa
open Go.RowKit

set_option maxRecDepth 100000 in
set_option maxHeartbeats 4000000 in
theorem linesPlaces_walk (s : ByteArray) (a b p : Int) (w : World) : Calls Try.prog 4 #[.string s, .agg #[.int .i64 a, .int .i64 b], .int .i64 p] w fun e w' => e = .returned (.bool true) ∧ Below w.heap.size w w' := by
  by_cases hs : 3000 < s.size
  · go_enter Try.func4, Try.ntmps4
    have B0 := Lib.hid (alloc_below w (.cells #[.int .i64 a, .int .i64 b] 33))
    have K0 := Lib.hid (alloc_top w #[.int .i64 a, .int .i64 b] 33)
    go_wp2_with fail
    refine (long_yes s hs _).mono ?_
    rintro e w' ⟨rfl, rfl⟩
    go_wp2_with fail
    refine (works_any _).mono ?_
    rintro e w1 ⟨rfl, k1⟩
    have K1 := Lib.hid (heap_keep k1 K0.out)
    have c10 := cell_at (i := 0) K1.out
    have c11 := cell_at (i := 1) K1.out
    have B1 := Lib.hid (B0.out.trans (k1.mono B0.out.size))
    clear k1 B0
    go_wp2_with fail
    go_ret
    exact ⟨rfl, B1.out⟩
  have HG := Lib.hid (long_no s (by omega))
  have H1 := Lib.hid (fun w => offset_any s (by omega) a b w)
  have H2 := Lib.hid (fun w => refOffset_any s (by omega) a b w)
  have H3 := Lib.hid (fun w => at_any s (by omega) p w)
  have H4 := Lib.hid (fun w => refAt_any s (by omega) p w)
  have H5 := Lib.hid (fun w => full_any s (by omega) w)
  have H6 := Lib.hid (fun w => refAt_any s (by omega) (s.size : Int) w)
  generalize lineN s.data.toList (clip s.data.toList (s.size : Int)) = n1 at *
  generalize charP s.data.toList (clip s.data.toList (s.size : Int)) = c1 at *
  generalize lineN s.data.toList (clip s.data.toList p) = n2 at *
  generalize charP s.data.toList (clip s.data.toList p) = c2 at *
  generalize offW s.data.toList a b = o1 at *
  have hE : offE a b = 0 ∨ offE a b = 2 := by unfold offE; split <;> simp
  generalize offE a b = e1 at *
  rcases hE with rfl | rfl
  · go_enter Try.func4, Try.ntmps4
    have B0 := Lib.hid (alloc_below w (.cells #[.int .i64 a, .int .i64 b] 33))
    have K0 := Lib.hid (alloc_top w #[.int .i64 a, .int .i64 b] 33)
    go_wp2_with fail
    refine (HG.out _).mono ?_
    rintro e w' ⟨rfl, rfl⟩
    go_wp2_with fail
    refine (H1.out _).mono ?_
    rintro e w1 ⟨rfl, k1⟩
    have K1 := Lib.hid (heap_keep k1 K0.out)
    have c10 := cell_at (i := 0) K1.out
    have c11 := cell_at (i := 1) K1.out
    have B1 := Lib.hid (B0.out.trans (k1.mono B0.out.size))
    clear k1 B0
    go_wp2_with fail
    refine (H2.out _).mono ?_
    rintro e w2 ⟨rfl, k2⟩
    clear c10 c11
    have K2 := Lib.hid (heap_keep k2 K1.out)
    have c20 := cell_at (i := 0) K2.out
    have c21 := cell_at (i := 1) K2.out
    have B2 := Lib.hid (B1.out.trans (k2.mono B1.out.size))
    clear k2 B1
    go_wp2_with fail
    refine (H3.out _).mono ?_
    rintro e w3 ⟨rfl, k3⟩
    clear c20 c21
    have K3 := Lib.hid (heap_keep k3 K2.out)
    have c30 := cell_at (i := 0) K3.out
    have c31 := cell_at (i := 1) K3.out
    have B3 := Lib.hid (B2.out.trans (k3.mono B2.out.size))
    clear k3 B2
    go_wp2_with fail
    refine (H4.out _).mono ?_
    rintro e w4 ⟨rfl, k4⟩
    clear c30 c31
    have K4 := Lib.hid (heap_keep k4 K3.out)
    have c40 := cell_at (i := 0) K4.out
    have c41 := cell_at (i := 1) K4.out
    have B4 := Lib.hid (B3.out.trans (k4.mono B3.out.size))
    clear k4 B3
    go_wp2_with fail
    refine (H5.out _).mono ?_
    rintro e w5 ⟨rfl, k5⟩
    clear c40 c41
    have K5 := Lib.hid (heap_keep k5 K4.out)
    have c50 := cell_at (i := 0) K5.out
    have c51 := cell_at (i := 1) K5.out
    have B5 := Lib.hid (B4.out.trans (k5.mono B4.out.size))
    clear k5 B4
    go_wp2_with fail
    refine (H6.out _).mono ?_
    rintro e w6 ⟨rfl, k6⟩
    clear c50 c51
    have K6 := Lib.hid (heap_keep k6 K5.out)
    have c60 := cell_at (i := 0) K6.out
    have c61 := cell_at (i := 1) K6.out
    have B6 := Lib.hid (B5.out.trans (k6.mono B5.out.size))
    clear k6 B5
    go_wp2_with fail
    refine (works_any _).mono ?_
    rintro e w7 ⟨rfl, k7⟩
    clear c60 c61
    have K7 := Lib.hid (heap_keep k7 K6.out)
    have c70 := cell_at (i := 0) K7.out
    have c71 := cell_at (i := 1) K7.out
    have B7 := Lib.hid (B6.out.trans (k7.mono B6.out.size))
    clear k7 B6
    go_wp2_with fail
    go_ret
    exact ⟨rfl, B7.out⟩
  · go_enter Try.func4, Try.ntmps4
    have B0 := Lib.hid (alloc_below w (.cells #[.int .i64 a, .int .i64 b] 33))
    have K0 := Lib.hid (alloc_top w #[.int .i64 a, .int .i64 b] 33)
    go_wp2_with fail
    refine (HG.out _).mono ?_
    rintro e w' ⟨rfl, rfl⟩
    go_wp2_with fail
    refine (H1.out _).mono ?_
    rintro e w1 ⟨rfl, k1⟩
    have K1 := Lib.hid (heap_keep k1 K0.out)
    have c10 := cell_at (i := 0) K1.out
    have c11 := cell_at (i := 1) K1.out
    have B1 := Lib.hid (B0.out.trans (k1.mono B0.out.size))
    clear k1 B0
    go_wp2_with fail
    refine (H2.out _).mono ?_
    rintro e w2 ⟨rfl, k2⟩
    clear c10 c11
    have K2 := Lib.hid (heap_keep k2 K1.out)
    have c20 := cell_at (i := 0) K2.out
    have c21 := cell_at (i := 1) K2.out
    have B2 := Lib.hid (B1.out.trans (k2.mono B1.out.size))
    clear k2 B1
    go_wp2_with fail
    refine (H3.out _).mono ?_
    rintro e w3 ⟨rfl, k3⟩
    clear c20 c21
    have K3 := Lib.hid (heap_keep k3 K2.out)
    have c30 := cell_at (i := 0) K3.out
    have c31 := cell_at (i := 1) K3.out
    have B3 := Lib.hid (B2.out.trans (k3.mono B2.out.size))
    clear k3 B2
    go_wp2_with fail
    refine (H4.out _).mono ?_
    rintro e w4 ⟨rfl, k4⟩
    clear c30 c31
    have K4 := Lib.hid (heap_keep k4 K3.out)
    have c40 := cell_at (i := 0) K4.out
    have c41 := cell_at (i := 1) K4.out
    have B4 := Lib.hid (B3.out.trans (k4.mono B3.out.size))
    clear k4 B3
    go_wp2_with fail
    refine (H5.out _).mono ?_
    rintro e w5 ⟨rfl, k5⟩
    clear c40 c41
    have K5 := Lib.hid (heap_keep k5 K4.out)
    have c50 := cell_at (i := 0) K5.out
    have c51 := cell_at (i := 1) K5.out
    have B5 := Lib.hid (B4.out.trans (k5.mono B4.out.size))
    clear k5 B4
    go_wp2_with fail
    refine (H6.out _).mono ?_
    rintro e w6 ⟨rfl, k6⟩
    clear c50 c51
    have K6 := Lib.hid (heap_keep k6 K5.out)
    have c60 := cell_at (i := 0) K6.out
    have c61 := cell_at (i := 1) K6.out
    have B6 := Lib.hid (B5.out.trans (k6.mono B5.out.size))
    clear k6 B5
    go_wp2_with fail
    refine (works_any _).mono ?_
    rintro e w7 ⟨rfl, k7⟩
    clear c60 c61
    have K7 := Lib.hid (heap_keep k7 K6.out)
    have c70 := cell_at (i := 0) K7.out
    have c71 := cell_at (i := 1) K7.out
    have B7 := Lib.hid (B6.out.trans (k7.mono B6.out.size))
    clear k7 B6
    go_wp2_with fail
    go_ret
    exact ⟨rfl, B7.out⟩
end Go.Proofs.Ytnmbclkpncjebaa
