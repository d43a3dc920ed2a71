/-
  THE WALK OF emendlaw06.LinesCuts: at every text and range it returns true; no memory that was there turns. No condition.
-/
import Derived.Test.YtnmbclkpncjebaaWorks
import Derived.Test.YtnmbclkpncjebaaRefCut
namespace Go.Proofs.Ytnmbclkpncjebaa
open Go.RowKit

set_option maxRecDepth 100000 in
set_option maxHeartbeats 4000000 in
theorem linesCuts_walk (s : ByteArray) (a b c d : Int) (w : World) : Calls Try.prog 5 #[.string s, .agg #[.int .i64 a, .int .i64 b, .int .i64 c, .int .i64 d]] w fun e w' => e = .returned (.bool true) ∧ Below w.heap.size w w' := by
  by_cases hs : 3000 < s.size
  · go_enter Try.func5, Try.ntmps5
    have B0 := Lib.hid (alloc_below w (.cells #[.int .i64 a, .int .i64 b, .int .i64 c, .int .i64 d] 41))
    have K0 := Lib.hid (alloc_top w #[.int .i64 a, .int .i64 b, .int .i64 c, .int .i64 d] 41)
    go_wp2_with fail
    refine (long_yes s hs _).mono ?_
    rintro e w' ⟨rfl, rfl⟩
    go_wp2_with fail
    refine (works_any _).mono ?_
    rintro e w1 ⟨rfl, k1⟩
    have K1 := Lib.hid (heap_keep k1 K0.out)
    have c10 := cell_at (i := 0) K1.out
    have c11 := cell_at (i := 1) K1.out
    have c12 := cell_at (i := 2) K1.out
    have c13 := cell_at (i := 3) K1.out
    have B1 := Lib.hid (B0.out.trans (k1.mono B0.out.size))
    clear k1 B0
    go_wp2_with fail
    go_ret
    exact ⟨rfl, B1.out⟩
  have HG := Lib.hid (long_no s (by omega))
  have H1 := Lib.hid (fun w => cut_any s (by omega) a b c d w)
  have H2 := Lib.hid (fun w => refCut_any s (by omega) a b c d w)
  have hE : cutE s.data.toList a b c d = 0 ∨ cutE s.data.toList a b c d = 2 := by unfold cutE; by_cases h1 : a < 0 ∨ b < 0 <;> by_cases h2 : c < 0 ∨ d < 0 <;> by_cases h3 : (offP s.data.toList c d : Int) < offP s.data.toList a b <;> simp [h1, h2, h3]
  generalize cutE s.data.toList a b c d = e1 at *
  generalize cutA s.data.toList a b c d = x1 at *
  generalize cutB s.data.toList a b c d = x2 at *
  rcases hE with rfl | rfl
  · go_enter Try.func5, Try.ntmps5
    have B0 := Lib.hid (alloc_below w (.cells #[.int .i64 a, .int .i64 b, .int .i64 c, .int .i64 d] 41))
    have K0 := Lib.hid (alloc_top w #[.int .i64 a, .int .i64 b, .int .i64 c, .int .i64 d] 41)
    go_wp2_with fail
    refine (HG.out _).mono ?_
    rintro e w' ⟨rfl, rfl⟩
    go_wp2_with fail
    refine (H1.out _).mono ?_
    rintro e w1 ⟨rfl, k1⟩
    have K1 := Lib.hid (heap_keep k1 K0.out)
    have c10 := cell_at (i := 0) K1.out
    have c11 := cell_at (i := 1) K1.out
    have c12 := cell_at (i := 2) K1.out
    have c13 := cell_at (i := 3) K1.out
    have B1 := Lib.hid (B0.out.trans (k1.mono B0.out.size))
    clear k1 B0
    go_wp2_with fail
    refine (H2.out _).mono ?_
    rintro e w2 ⟨rfl, k2⟩
    clear c10 c11 c12 c13
    have K2 := Lib.hid (heap_keep k2 K1.out)
    have c20 := cell_at (i := 0) K2.out
    have c21 := cell_at (i := 1) K2.out
    have c22 := cell_at (i := 2) K2.out
    have c23 := cell_at (i := 3) K2.out
    have B2 := Lib.hid (B1.out.trans (k2.mono B1.out.size))
    clear k2 B1
    go_wp2_with fail
    refine (works_any _).mono ?_
    rintro e w3 ⟨rfl, k3⟩
    clear c20 c21 c22 c23
    have K3 := Lib.hid (heap_keep k3 K2.out)
    have c30 := cell_at (i := 0) K3.out
    have c31 := cell_at (i := 1) K3.out
    have c32 := cell_at (i := 2) K3.out
    have c33 := cell_at (i := 3) K3.out
    have B3 := Lib.hid (B2.out.trans (k3.mono B2.out.size))
    clear k3 B2
    go_wp2_with fail
    go_ret
    exact ⟨rfl, B3.out⟩
  · go_enter Try.func5, Try.ntmps5
    have B0 := Lib.hid (alloc_below w (.cells #[.int .i64 a, .int .i64 b, .int .i64 c, .int .i64 d] 41))
    have K0 := Lib.hid (alloc_top w #[.int .i64 a, .int .i64 b, .int .i64 c, .int .i64 d] 41)
    go_wp2_with fail
    refine (HG.out _).mono ?_
    rintro e w' ⟨rfl, rfl⟩
    go_wp2_with fail
    refine (H1.out _).mono ?_
    rintro e w1 ⟨rfl, k1⟩
    have K1 := Lib.hid (heap_keep k1 K0.out)
    have c10 := cell_at (i := 0) K1.out
    have c11 := cell_at (i := 1) K1.out
    have c12 := cell_at (i := 2) K1.out
    have c13 := cell_at (i := 3) K1.out
    have B1 := Lib.hid (B0.out.trans (k1.mono B0.out.size))
    clear k1 B0
    go_wp2_with fail
    refine (H2.out _).mono ?_
    rintro e w2 ⟨rfl, k2⟩
    clear c10 c11 c12 c13
    have K2 := Lib.hid (heap_keep k2 K1.out)
    have c20 := cell_at (i := 0) K2.out
    have c21 := cell_at (i := 1) K2.out
    have c22 := cell_at (i := 2) K2.out
    have c23 := cell_at (i := 3) K2.out
    have B2 := Lib.hid (B1.out.trans (k2.mono B1.out.size))
    clear k2 B1
    go_wp2_with fail
    refine (works_any _).mono ?_
    rintro e w3 ⟨rfl, k3⟩
    clear c20 c21 c22 c23
    have K3 := Lib.hid (heap_keep k3 K2.out)
    have c30 := cell_at (i := 0) K3.out
    have c31 := cell_at (i := 1) K3.out
    have c32 := cell_at (i := 2) K3.out
    have c33 := cell_at (i := 3) K3.out
    have B3 := Lib.hid (B2.out.trans (k3.mono B2.out.size))
    clear k3 B2
    go_wp2_with fail
    go_ret
    exact ⟨rfl, B3.out⟩
end Go.Proofs.Ytnmbclkpncjebaa
