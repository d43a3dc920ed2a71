/-
  emendref06.Cut AT EVERY TEXT of at most 1000000 bytes, every range: both places, the error's number; no memory that was there turns. Condition: the text's length.
-/
import Derived.Test.YtnmbclkpncjebaaRefOffset
import Derived.Test.YtnmbclkpncjebaaCut
namespace Go.Proofs.Ytnmbclkpncjebaa
open Go.RowKit Go.Shelf

set_option maxRecDepth 100000 in
set_option maxHeartbeats 4000000 in
theorem refCut_any (s : ByteArray) (hs : s.size ≤ 1000000) (a b c d : Int) (w : World) : Calls Try.prog 21 #[.string s, .agg #[.int .i64 a, .int .i64 b, .int .i64 c, .int .i64 d]] w fun e w' =>
    e = .returned (.tuple #[.int .i64 (cutA s.data.toList a b c d), .int .i64 (cutB s.data.toList a b c d), .int .i64 (cutE s.data.toList a b c d)]) ∧ Below w.heap.size w w' := by
  have H1 := Lib.hid (fun w => refOffset_any s hs a b w)
  have H2 := Lib.hid (fun w => refOffset_any s hs c d w)
  have hx := offP_le s.data.toList a b
  have hy := offP_le s.data.toList c d
  rw [show s.data.toList.length = s.size from rfl] at hx hy
  by_cases h1 : a < 0 ∨ b < 0
  · have e1 : offE a b = 2 := by unfold offE; rw [if_pos h1]
    have e2 : offW s.data.toList a b = 0 := by unfold offW; rw [if_pos h1]
    have e5 : cutE s.data.toList a b c d = 2 := by unfold cutE; rw [if_pos h1]
    rw [(cut_bad e5).1, (cut_bad e5).2, e5]
    rw [e1, e2] at H1
    clear e1 e2 e5 h1 hx hy
    generalize offW s.data.toList c d = y at *
    generalize offE c d = z at *
    go_enter Try.func21, Try.ntmps21
    go_wp2_with fail
    refine (H1.out _).mono ?_
    rintro e w1 ⟨rfl, hb⟩
    have k := heap_keep hb (alloc_top w #[.int .i64 a, .int .i64 b, .int .i64 c, .int .i64 d] 41)
    have c2 := cell_at (i := 2) k
    have c3 := cell_at (i := 3) k
    have HB := Lib.hid hb
    clear hb k
    go_wp2_with fail
    refine (H2.out _).mono ?_
    rintro e w2 ⟨rfl, hb⟩
    have HB2 := Lib.hid (((alloc_below w (.cells #[.int .i64 a, .int .i64 b, .int .i64 c, .int .i64 d] 41)).trans (HB.out.mono (alloc_below w _).size)).trans (hb.mono (Nat.le_trans (alloc_below w (.cells #[.int .i64 a, .int .i64 b, .int .i64 c, .int .i64 d] 41)).size HB.out.size)))
    clear hb HB
    go_wp2_with fail
    go_ret3
    exact ⟨rfl, HB2.out⟩
  · have e1 : offE a b = 0 := by unfold offE; rw [if_neg h1]
    have e2 : offW s.data.toList a b = offP s.data.toList a b := by unfold offW; rw [if_neg h1]
    rw [e1, e2] at H1
    by_cases h2 : c < 0 ∨ d < 0
    · have e3 : offE c d = 2 := by unfold offE; rw [if_pos h2]
      have e4 : offW s.data.toList c d = 0 := by unfold offW; rw [if_pos h2]
      have e5 : cutE s.data.toList a b c d = 2 := by unfold cutE; rw [if_neg h1, if_pos h2]
      rw [(cut_bad e5).1, (cut_bad e5).2, e5]
      rw [e3, e4] at H2
      clear e1 e2 e3 e4 e5 h1 h2 hy
      generalize offP s.data.toList a b = x at *
      go_enter Try.func21, Try.ntmps21
      go_wp2_with fail
      refine (H1.out _).mono ?_
      rintro e w1 ⟨rfl, hb⟩
      have k := heap_keep hb (alloc_top w #[.int .i64 a, .int .i64 b, .int .i64 c, .int .i64 d] 41)
      have c2 := cell_at (i := 2) k
      have c3 := cell_at (i := 3) k
      have HB := Lib.hid hb
      clear hb k
      go_wp2_with fail
      refine (H2.out _).mono ?_
      rintro e w2 ⟨rfl, hb⟩
      have HB2 := Lib.hid (((alloc_below w (.cells #[.int .i64 a, .int .i64 b, .int .i64 c, .int .i64 d] 41)).trans (HB.out.mono (alloc_below w _).size)).trans (hb.mono (Nat.le_trans (alloc_below w (.cells #[.int .i64 a, .int .i64 b, .int .i64 c, .int .i64 d] 41)).size HB.out.size)))
      clear hb HB
      go_wp2_with fail
      go_ret3
      exact ⟨rfl, HB2.out⟩
    · have e3 : offE c d = 0 := by unfold offE; rw [if_neg h2]
      have e4 : offW s.data.toList c d = offP s.data.toList c d := by unfold offW; rw [if_neg h2]
      rw [e3, e4] at H2
      by_cases h3 : (offP s.data.toList c d : Int) < offP s.data.toList a b
      · have e5 : cutE s.data.toList a b c d = 2 := by unfold cutE; rw [if_neg h1, if_neg h2, if_pos h3]
        rw [(cut_bad e5).1, (cut_bad e5).2, e5]
        have d3 : decide ((offP s.data.toList c d : Int) < offP s.data.toList a b) = true := decide_eq_true h3
        clear e1 e2 e3 e4 e5 h1 h2
        generalize offP s.data.toList a b = x at *
        generalize offP s.data.toList c d = y at *
        go_enter Try.func21, Try.ntmps21
        go_wp2_with fail
        refine (H1.out _).mono ?_
        rintro e w1 ⟨rfl, hb⟩
        have k := heap_keep hb (alloc_top w #[.int .i64 a, .int .i64 b, .int .i64 c, .int .i64 d] 41)
        have c2 := cell_at (i := 2) k
        have c3 := cell_at (i := 3) k
        have HB := Lib.hid hb
        clear hb k
        go_wp2_with fail
        refine (H2.out _).mono ?_
        rintro e w2 ⟨rfl, hb⟩
        have HB2 := Lib.hid (((alloc_below w (.cells #[.int .i64 a, .int .i64 b, .int .i64 c, .int .i64 d] 41)).trans (HB.out.mono (alloc_below w _).size)).trans (hb.mono (Nat.le_trans (alloc_below w (.cells #[.int .i64 a, .int .i64 b, .int .i64 c, .int .i64 d] 41)).size HB.out.size)))
        clear hb HB
        go_wp2_with fail
        go_ret3
        exact ⟨rfl, HB2.out⟩
      · have e5 : cutE s.data.toList a b c d = 0 := by unfold cutE; rw [if_neg h1, if_neg h2, if_neg h3]
        rw [(cut_ok e5).1, (cut_ok e5).2, e5]
        have d3 : decide ((offP s.data.toList c d : Int) < offP s.data.toList a b) = false := decide_eq_false h3
        clear e1 e2 e3 e4 e5 h1 h2
        generalize offP s.data.toList a b = x at *
        generalize offP s.data.toList c d = y at *
        go_enter Try.func21, Try.ntmps21
        go_wp2_with fail
        refine (H1.out _).mono ?_
        rintro e w1 ⟨rfl, hb⟩
        have k := heap_keep hb (alloc_top w #[.int .i64 a, .int .i64 b, .int .i64 c, .int .i64 d] 41)
        have c2 := cell_at (i := 2) k
        have c3 := cell_at (i := 3) k
        have HB := Lib.hid hb
        clear hb k
        go_wp2_with fail
        refine (H2.out _).mono ?_
        rintro e w2 ⟨rfl, hb⟩
        have HB2 := Lib.hid (((alloc_below w (.cells #[.int .i64 a, .int .i64 b, .int .i64 c, .int .i64 d] 41)).trans (HB.out.mono (alloc_below w _).size)).trans (hb.mono (Nat.le_trans (alloc_below w (.cells #[.int .i64 a, .int .i64 b, .int .i64 c, .int .i64 d] 41)).size HB.out.size)))
        clear hb HB
        go_wp2_with fail
        go_ret3
        exact ⟨rfl, HB2.out⟩
end Go.Proofs.Ytnmbclkpncjebaa
