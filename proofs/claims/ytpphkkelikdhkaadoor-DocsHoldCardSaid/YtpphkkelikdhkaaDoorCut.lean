/-
  lines' Cut AT EVERY TEXT of at most 1000000 bytes, every range: both places, the error's number; no memory that was there turns. Condition: the text's length.
-/
import Derived.Test.YtpphkkelikdhkaaDoorPlace
namespace Go.Proofs.YtpphkkelikdhkaaDoor
open Go.RowKit Go.Shelf

/-- What Cut returns: both places, the error's number. -/
def cutE (l : List UInt8) (a b c d : Int) : Int := if a < 0 ∨ b < 0 then 2 else if c < 0 ∨ d < 0 then 2 else if (offP l c d : Int) < offP l a b then 2 else 0
def cutA (l : List UInt8) (a b c d : Int) : Int := if cutE l a b c d = 0 then offP l a b else 0
def cutB (l : List UInt8) (a b c d : Int) : Int := if cutE l a b c d = 0 then offP l c d else 0
theorem cut_bad {l : List UInt8} {a b c d : Int} (h : cutE l a b c d = 2) : cutA l a b c d = 0 ∧ cutB l a b c d = 0 := by
  unfold cutA cutB
  rw [h]
  exact ⟨rfl, rfl⟩
theorem cut_ok {l : List UInt8} {a b c d : Int} (h : cutE l a b c d = 0) : cutA l a b c d = offP l a b ∧ cutB l a b c d = offP l c d := by
  unfold cutA cutB
  rw [h]
  exact ⟨rfl, rfl⟩
theorem ret_cut {a b c x y z : Int} (h1 : a = x) (h2 : b = y) (h3 : c = z) : Ending.returned (.tuple #[.int .i64 a, .int .i64 b, .int .i64 c]) = .returned (.tuple #[.int .i64 x, .int .i64 y, .int .i64 z]) := by rw [h1, h2, h3]
set_option maxRecDepth 100000 in
set_option maxHeartbeats 4000000 in
theorem cut_any (s : ByteArray) (hs : s.size ≤ 1000000) (a b c d : Int) (w : World) : Calls Tryd.prog 71 #[.string s, .agg #[.int .i64 a, .int .i64 b, .int .i64 c, .int .i64 d]] w fun e w' =>
    e = .returned (.tuple #[.int .i64 (cutA s.data.toList a b c d), .int .i64 (cutB s.data.toList a b c d), .int .i64 (cutE s.data.toList a b c d)]) ∧ Below w.heap.size w w' := by
  have H1 := Lib.hid (fun w => offset_any s hs a b w)
  have H2 := Lib.hid (fun w => offset_any s hs c d w)
  by_cases h1 : a < 0 ∨ b < 0
  · have e1 : offE a b = 2 := by unfold offE; rw [if_pos h1]
    have e2 : offW s.data.toList a b = 0 := by unfold offW; rw [if_pos h1]
    have e3 : cutE s.data.toList a b c d = 2 := by unfold cutE; rw [if_pos h1]
    rw [(cut_bad e3).1, (cut_bad e3).2, e3]
    rw [e1, e2] at H1
    clear e1 e2 e3 h1 H2
    go_enter Tryd.func71, Tryd.ntmps71
    go_wp2_with fail
    refine (H1.out _).mono ?_
    rintro e w1 ⟨rfl, hb⟩
    have HB := Lib.hid hb
    clear hb
    go_wp2_with fail
    go_ret3
    exact ⟨rfl, (alloc_below w _).trans (HB.out.mono (alloc_below w _).size)⟩
  · have e1 : offE a b = 0 := by unfold offE; rw [if_neg h1]
    have e2 : offW s.data.toList a b = offP s.data.toList a b := by unfold offW; rw [if_neg h1]
    have hx := offP_le s.data.toList a b
    have hy := offP_le s.data.toList c d
    rw [show s.data.toList.length = s.size from rfl] at hx hy
    rw [e1, e2] at H1
    by_cases h2 : c < 0 ∨ d < 0
    · have e3 : offE c d = 2 := by unfold offE; rw [if_pos h2]
      have e4 : offW s.data.toList c d = 0 := by unfold offW; rw [if_pos h2]
      have e5 : cutE s.data.toList a b c d = 2 := by unfold cutE; rw [if_neg h1, if_pos h2]
      rw [(cut_bad e5).1, (cut_bad e5).2, e5]
      rw [e3, e4] at H2
      clear e1 e2 e3 e4 e5 h1 h2 hy
      generalize offP s.data.toList a b = x at *
      go_enter Tryd.func71, Tryd.ntmps71
      go_wp2_with fail
      refine (H1.out _).mono ?_
      rintro e w1 ⟨rfl, hb⟩
      have k := heap_keep hb (alloc_top w #[.int .i64 a, .int .i64 b, .int .i64 c, .int .i64 d] 52)
      have c2 := cell_at (i := 2) k
      have c3 := cell_at (i := 3) k
      have HB := Lib.hid hb
      clear hb k
      go_wp2_with fail
      refine (H2.out _).mono ?_
      rintro e w2 ⟨rfl, hb⟩
      have HB2 := Lib.hid (((alloc_below w (.cells #[.int .i64 a, .int .i64 b, .int .i64 c, .int .i64 d] 52)).trans (HB.out.mono (alloc_below w _).size)).trans (hb.mono (Nat.le_trans (alloc_below w (.cells #[.int .i64 a, .int .i64 b, .int .i64 c, .int .i64 d] 52)).size HB.out.size)))
      clear hb HB
      go_wp2_with fail
      go_ret3
      exact ⟨rfl, HB2.out⟩
    · have e3 : offE c d = 0 := by unfold offE; rw [if_neg h2]
      have e4 : offW s.data.toList c d = offP s.data.toList c d := by unfold offW; rw [if_neg h2]
      rw [e3, e4] at H2
      by_cases h3 : (offP s.data.toList c d : Int) < offP s.data.toList a b
      · have e5 : cutE s.data.toList a b c d = 2 := by unfold cutE; rw [if_neg h1, if_neg h2, if_pos h3]
        rw [(cut_bad e5).1, (cut_bad e5).2, e5]
        clear e1 e2 e3 e4 e5 h1 h2
        generalize offP s.data.toList a b = x at *
        generalize offP s.data.toList c d = y at *
        go_enter Tryd.func71, Tryd.ntmps71
        go_wp2_with fail
        refine (H1.out _).mono ?_
        rintro e w1 ⟨rfl, hb⟩
        have k := heap_keep hb (alloc_top w #[.int .i64 a, .int .i64 b, .int .i64 c, .int .i64 d] 52)
        have c2 := cell_at (i := 2) k
        have c3 := cell_at (i := 3) k
        have HB := Lib.hid hb
        clear hb k
        go_wp2_with fail
        refine (H2.out _).mono ?_
        rintro e w2 ⟨rfl, hb⟩
        have HB2 := Lib.hid (((alloc_below w (.cells #[.int .i64 a, .int .i64 b, .int .i64 c, .int .i64 d] 52)).trans (HB.out.mono (alloc_below w _).size)).trans (hb.mono (Nat.le_trans (alloc_below w (.cells #[.int .i64 a, .int .i64 b, .int .i64 c, .int .i64 d] 52)).size HB.out.size)))
        clear hb HB
        go_wp2_with fail
        go_ret3
        exact ⟨rfl, HB2.out⟩
      · have e5 : cutE s.data.toList a b c d = 0 := by unfold cutE; rw [if_neg h1, if_neg h2, if_neg h3]
        rw [(cut_ok e5).1, (cut_ok e5).2, e5]
        clear e1 e2 e3 e4 e5 h1 h2
        generalize offP s.data.toList a b = x at *
        generalize offP s.data.toList c d = y at *
        go_enter Tryd.func71, Tryd.ntmps71
        go_wp2_with fail
        refine (H1.out _).mono ?_
        rintro e w1 ⟨rfl, hb⟩
        have k := heap_keep hb (alloc_top w #[.int .i64 a, .int .i64 b, .int .i64 c, .int .i64 d] 52)
        have c2 := cell_at (i := 2) k
        have c3 := cell_at (i := 3) k
        have HB := Lib.hid hb
        clear hb k
        go_wp2_with fail
        refine (H2.out _).mono ?_
        rintro e w2 ⟨rfl, hb⟩
        have HB2 := Lib.hid (((alloc_below w (.cells #[.int .i64 a, .int .i64 b, .int .i64 c, .int .i64 d] 52)).trans (HB.out.mono (alloc_below w _).size)).trans (hb.mono (Nat.le_trans (alloc_below w (.cells #[.int .i64 a, .int .i64 b, .int .i64 c, .int .i64 d] 52)).size HB.out.size)))
        clear hb HB
        go_wp2_with fail
        go_ret3
        exact ⟨rfl, HB2.out⟩
end Go.Proofs.YtpphkkelikdhkaaDoor
