/-
  THE WALK OF emendlaw06.LinesBack: at every text and number below 2^16 it returns true; no memory that was there turns. Condition: unicode/utf8's two tables are as their text lays them (Utf8Tabs).
-/
import Derived.Test.YtnmbclkpncjebaaDoorWorks
import Derived.Test.YtnmbclkpncjebaaDoorDec
namespace Go.Proofs.YtnmbclkpncjebaaDoor
open Go.RowKit

theorem nth_byte (s : ByteArray) (i : Nat) (h : i < s.size) : nth s.data.toList i = (s[i]'h).toNat := by
  unfold nth
  rw [List.getD_eq_getElem?_getD, List.getElem?_eq_getElem (show i < s.data.toList.length from h)]
  rfl
set_option maxRecDepth 100000 in
set_option maxHeartbeats 8000000 in
theorem linesBack_walk (s : ByteArray) (a : Int) (h0 : 0 ≤ a) (g0 : a ≤ 65535) (w : World) (hT : Lib.Utf8Tabs 0 1 w) : Calls Tryd.prog 3 #[.string s, .int .u16 a] w fun e w' => e = .returned (.bool true) ∧ Below w.heap.size w w' := by
  obtain ⟨i, rfl⟩ := Int.eq_ofNat_of_zero_le h0
  by_cases hs : 3000 < s.size
  · clear hT
    go_enter Tryd.func3, Tryd.ntmps3
    go_wp2_with fail
    refine (long_yes s hs _).mono ?_
    rintro e w' ⟨rfl, rfl⟩
    go_wp2_with fail
    refine (works_any _).mono ?_
    rintro e w1 ⟨rfl, k1⟩
    have B1 := Lib.hid k1
    clear k1
    go_wp2_with fail
    go_ret
    exact ⟨rfl, B1.out⟩
  have HG := Lib.hid (long_no s (by omega))
  obtain ⟨p, hp⟩ : ∃ p, i % (s.size + 1) = p := ⟨_, rfl⟩
  have hps : p ≤ s.size := by have := Nat.mod_lt i (show 0 < s.size + 1 by omega); omega
  have hrem : Int.tmod (i : Int) ((s.size : Int) + 1) = (p : Int) := by
    rw [show ((s.size : Int) + 1) = ((s.size + 1 : Nat) : Int) by push_cast; rfl, ← hp]
    rfl
  have hnz : ¬ ((s.size : Int) + 1 = 0) := by omega
  have H1 := Lib.hid (fun w => at_any s (by omega) (p : Int) w)
  have H2 := Lib.hid (fun w => offset_any s (by omega) (lineN s.data.toList p : Int) (charP s.data.toList p : Int) w)
  have H3 := Lib.hid (fun q w => decode_any s q w)
  rw [clip_nat _ p hps] at H1
  unfold offW offE at H2
  rw [if_neg (by omega), if_neg (by omega)] at H2
  have hb := back_line s.data.toList p hps
  unfold backP at hb
  generalize offP s.data.toList (lineN s.data.toList p : Int) (charP s.data.toList p : Int) = q at *
  generalize lineN s.data.toList p = lx at *
  generalize charP s.data.toList p = cx at *
  obtain ⟨hqp, hd3, hor⟩ := hb
  have hsl : s.data.toList.length = s.size := rfl
  rw [hsl] at hor
  have HOR := Lib.hid hor
  have F0 := Lib.hid hT
  clear hor hT hp hsl
  by_cases he : q = p
  · have HE : Hid (q = p) := Lib.hid he
    subst he
    clear HOR
    go_enter Tryd.func3, Tryd.ntmps3
    go_wp2_with fail
    refine (HG.out _).mono ?_
    rintro e w' ⟨rfl, rfl⟩
    go_wp2_with fail
    refine (H1.out _).mono ?_
    rintro e w1 ⟨rfl, k1⟩
    have F1 := Lib.hid (Go.Proofs.Utf8Tabs_below F0.out k1)
    clear F0
    have B1 := Lib.hid k1
    clear k1
    go_wp2_with fail
    refine (H2.out _).mono ?_
    rintro e w2 ⟨rfl, k2⟩
    have F2 := Lib.hid (Go.Proofs.Utf8Tabs_below F1.out k2)
    clear F1
    have B2 := Lib.hid (B1.out.trans (k2.mono B1.out.size))
    clear k2 B1
    go_wp2_with fail
    refine (works_any _).mono ?_
    rintro e w3 ⟨rfl, k3⟩
    have B3 := Lib.hid (B2.out.trans (k3.mono B2.out.size))
    clear k3 B2
    go_wp2_with fail
    go_ret
    exact ⟨rfl, B3.out⟩
  have hlt : q < s.size := by omega
  have en : ((q : Int) == (p : Int)) = false := by simpa using fun h => he (by omega)
  obtain ⟨y, hy⟩ : ∃ y, s[q]'hlt = y := ⟨_, rfl⟩
  have hyn := nth_byte s q hlt
  rw [hy] at hyn
  by_cases hB : p - q = 1 ∧ y.toNat = 13 ∧ p < s.size ∧ nth s.data.toList p = 10
  · obtain ⟨b1, b2, b3, b4⟩ := hB
    obtain ⟨z, hz⟩ : ∃ z, s[p]'b3 = z := ⟨_, rfl⟩
    have hzn := nth_byte s p b3
    rw [hz, b4] at hzn
    obtain rfl : y = 13 := UInt8.toNat_inj.1 (by rw [b2]; rfl)
    obtain rfl : z = 10 := UInt8.toNat_inj.1 (by rw [← hzn]; rfl)
    have hd1 : (p : Int) - (q : Int) = 1 := by omega
    clear hyn hzn b1 b2 b4 HOR
    go_enter Tryd.func3, Tryd.ntmps3
    go_wp2_with fail
    refine (HG.out _).mono ?_
    rintro e w' ⟨rfl, rfl⟩
    go_wp2_with fail
    refine (H1.out _).mono ?_
    rintro e w1 ⟨rfl, k1⟩
    have F1 := Lib.hid (Go.Proofs.Utf8Tabs_below F0.out k1)
    clear F0
    have B1 := Lib.hid k1
    clear k1
    go_wp2_with fail
    refine (H2.out _).mono ?_
    rintro e w2 ⟨rfl, k2⟩
    have F2 := Lib.hid (Go.Proofs.Utf8Tabs_below F1.out k2)
    clear F1
    have B2 := Lib.hid (B1.out.trans (k2.mono B1.out.size))
    clear k2 B1
    go_wp2_with fail
    refine (works_any _).mono ?_
    rintro e w3 ⟨rfl, k3⟩
    have B3 := Lib.hid (B2.out.trans (k3.mono B2.out.size))
    clear k3 B2
    go_wp2_with fail
    go_ret
    exact ⟨rfl, B3.out⟩
  have hW : p < q + wd (rest s q) := by
    rcases HOR.out with h | ⟨h1, h2, h3, h4⟩ | h
    · exact absurd h he
    · exact absurd ⟨h1, by rw [← hyn]; exact h3, h2, h4⟩ hB
    · exact h
  have hw4 := wd_le4 (rest s q)
  have eW : decW s (q : Int) = wd (rest s q) := by unfold decW; rw [if_pos (by omega), Int.toNat_natCast]
  have H4 : Hid (∀ w, Lib.Utf8Tabs 0 1 w → Calls Tryd.prog 8 #[.string s, .int .i64 (q : Int)] w fun e w' => e = .returned (.tuple #[.int .i64 (decP s (q : Int)), .int .i64 (wd (rest s q) : Int)]) ∧ Below w.heap.size w w') := Lib.hid (fun w h => by have := H3.out (q : Int) w h; rwa [eW] at this)
  generalize decP s (q : Int) = dp at *
  generalize wd (rest s q) = m at *
  have dW : ((p : Int) < (q : Int) + (m : Int)) := by omega
  clear HOR H3 eW hyn
  by_cases b1 : p - q = 1
  · have hd1 : (p : Int) - (q : Int) = 1 := by omega
    by_cases b2 : y.toNat = 13
    · obtain rfl : y = 13 := UInt8.toNat_inj.1 (by rw [b2]; rfl)
      by_cases b3 : p < s.size
      · obtain ⟨z, hz⟩ : ∃ z, s[p]'b3 = z := ⟨_, rfl⟩
        have hzn := nth_byte s p b3
        rw [hz] at hzn
        have e10 : ((z.toNat : Int) == 10) = false := by
          have : z.toNat ≠ 10 := fun e => hB ⟨b1, b2, b3, by rw [hzn]; exact e⟩
          simp only [beq_eq_false_iff_ne, ne_eq]; omega
        clear hzn b1 b2 hB
        go_enter Tryd.func3, Tryd.ntmps3
        go_wp2_with fail
        refine (HG.out _).mono ?_
        rintro e w' ⟨rfl, rfl⟩
        go_wp2_with fail
        refine (H1.out _).mono ?_
        rintro e w1 ⟨rfl, k1⟩
        have F1 := Lib.hid (Go.Proofs.Utf8Tabs_below F0.out k1)
        clear F0
        have B1 := Lib.hid k1
        clear k1
        go_wp2_with fail
        refine (H2.out _).mono ?_
        rintro e w2 ⟨rfl, k2⟩
        have F2 := Lib.hid (Go.Proofs.Utf8Tabs_below F1.out k2)
        clear F1
        have B2 := Lib.hid (B1.out.trans (k2.mono B1.out.size))
        clear k2 B1
        go_wp2_with fail
        refine (H4.out _ F2.out).mono ?_
        rintro e w3 ⟨rfl, k3⟩
        have B3 := Lib.hid (B2.out.trans (k3.mono B2.out.size))
        clear k3 B2
        go_wp2_with fail
        refine (works_any _).mono ?_
        rintro e w4 ⟨rfl, k4⟩
        have B4 := Lib.hid (B3.out.trans (k4.mono B3.out.size))
        clear k4 B3
        go_wp2_with fail
        go_ret
        exact ⟨rfl, B4.out⟩
      · clear b1 b2 hB
        go_enter Tryd.func3, Tryd.ntmps3
        go_wp2_with fail
        refine (HG.out _).mono ?_
        rintro e w' ⟨rfl, rfl⟩
        go_wp2_with fail
        refine (H1.out _).mono ?_
        rintro e w1 ⟨rfl, k1⟩
        have F1 := Lib.hid (Go.Proofs.Utf8Tabs_below F0.out k1)
        clear F0
        have B1 := Lib.hid k1
        clear k1
        go_wp2_with fail
        refine (H2.out _).mono ?_
        rintro e w2 ⟨rfl, k2⟩
        have F2 := Lib.hid (Go.Proofs.Utf8Tabs_below F1.out k2)
        clear F1
        have B2 := Lib.hid (B1.out.trans (k2.mono B1.out.size))
        clear k2 B1
        go_wp2_with fail
        refine (H4.out _ F2.out).mono ?_
        rintro e w3 ⟨rfl, k3⟩
        have B3 := Lib.hid (B2.out.trans (k3.mono B2.out.size))
        clear k3 B2
        go_wp2_with fail
        refine (works_any _).mono ?_
        rintro e w4 ⟨rfl, k4⟩
        have B4 := Lib.hid (B3.out.trans (k4.mono B3.out.size))
        clear k4 B3
        go_wp2_with fail
        go_ret
        exact ⟨rfl, B4.out⟩
    · have e13 : ((y.toNat : Int) == 13) = false := by simp only [beq_eq_false_iff_ne, ne_eq]; omega
      clear b1 b2 hB
      go_enter Tryd.func3, Tryd.ntmps3
      go_wp2_with fail
      refine (HG.out _).mono ?_
      rintro e w' ⟨rfl, rfl⟩
      go_wp2_with fail
      refine (H1.out _).mono ?_
      rintro e w1 ⟨rfl, k1⟩
      have F1 := Lib.hid (Go.Proofs.Utf8Tabs_below F0.out k1)
      clear F0
      have B1 := Lib.hid k1
      clear k1
      go_wp2_with fail
      refine (H2.out _).mono ?_
      rintro e w2 ⟨rfl, k2⟩
      have F2 := Lib.hid (Go.Proofs.Utf8Tabs_below F1.out k2)
      clear F1
      have B2 := Lib.hid (B1.out.trans (k2.mono B1.out.size))
      clear k2 B1
      go_wp2_with fail
      refine (H4.out _ F2.out).mono ?_
      rintro e w3 ⟨rfl, k3⟩
      have B3 := Lib.hid (B2.out.trans (k3.mono B2.out.size))
      clear k3 B2
      go_wp2_with fail
      refine (works_any _).mono ?_
      rintro e w4 ⟨rfl, k4⟩
      have B4 := Lib.hid (B3.out.trans (k4.mono B3.out.size))
      clear k4 B3
      go_wp2_with fail
      go_ret
      exact ⟨rfl, B4.out⟩
  · have hd1 : ((p : Int) - (q : Int) == 1) = false := by simp only [beq_eq_false_iff_ne, ne_eq]; omega
    clear b1 hB
    go_enter Tryd.func3, Tryd.ntmps3
    go_wp2_with fail
    refine (HG.out _).mono ?_
    rintro e w' ⟨rfl, rfl⟩
    go_wp2_with fail
    refine (H1.out _).mono ?_
    rintro e w1 ⟨rfl, k1⟩
    have F1 := Lib.hid (Go.Proofs.Utf8Tabs_below F0.out k1)
    clear F0
    have B1 := Lib.hid k1
    clear k1
    go_wp2_with fail
    refine (H2.out _).mono ?_
    rintro e w2 ⟨rfl, k2⟩
    have F2 := Lib.hid (Go.Proofs.Utf8Tabs_below F1.out k2)
    clear F1
    have B2 := Lib.hid (B1.out.trans (k2.mono B1.out.size))
    clear k2 B1
    go_wp2_with fail
    refine (H4.out _ F2.out).mono ?_
    rintro e w3 ⟨rfl, k3⟩
    have B3 := Lib.hid (B2.out.trans (k3.mono B2.out.size))
    clear k3 B2
    go_wp2_with fail
    refine (works_any _).mono ?_
    rintro e w4 ⟨rfl, k4⟩
    have B4 := Lib.hid (B3.out.trans (k4.mono B3.out.size))
    clear k4 B3
    go_wp2_with fail
    go_ret
    exact ⟨rfl, B4.out⟩
end Go.Proofs.YtnmbclkpncjebaaDoor
