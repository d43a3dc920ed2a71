/-
  UtfBack, UtfJoins (P2.1, P2.3, P2.5): for every input the laws return true and leave all memory that was there as it was. Condition: unicode/utf8's two tables are as their text lays them (Utf8Tabs).
-/
import Derived.Test.YtpeeeoejjplniaaDoorWorks
import Derived.Lib.Strings
namespace Go.Proofs.YtpeeeoejjplniaaDoor
open Go.RowKit

theorem decP_zero (s : ByteArray) (n : Nat) (m : List UInt8) (hs : s.data.toList = encL n ++ m) (h : isPt (n : Int) = true) : decP s 0 = n ∧ decW s 0 = (encL n).length := by
  have hd := dec_enc_append n h m
  have hl := encL_len n
  have hz : s.size = (encL n).length + m.length := by
    show s.data.size = _
    rw [← Array.length_toList, hs, List.length_append]
  unfold decP decW
  rw [if_pos (by omega), if_pos (by omega)]
  show pt (rest s 0) = _ ∧ ((wd (rest s 0) : Nat) : Int) = _
  rw [rest_zero, hs]
  unfold pt wd
  rw [hd]
  exact ⟨rfl, rfl⟩
theorem data_append (a b : ByteArray) : (a ++ b).data.toList = a.data.toList ++ b.data.toList := by simp [ByteArray.data_append]
theorem prefix_is (a b : Nat) (ha : isPt (a : Int) = true) (hb : isPt (b : Int) = true) : Lib.hasPrefix (encL a) (encL b) = decide ((a : Int) = (b : Int)) := by
  unfold Lib.hasPrefix
  by_cases h : a = b
  · subst h
    rw [decide_eq_true rfl]
    exact List.isPrefixOf_iff_prefix.2 (List.prefix_refl _)
  · rw [decide_eq_false (by omega)]
    rw [Bool.eq_false_iff]
    intro hp
    exact h (prefix_enc a b ha hb (List.isPrefixOf_iff_prefix.1 hp))
set_option maxRecDepth 100000 in
set_option maxHeartbeats 1000000 in
theorem back_walk (a b : Int) (m : ByteArray) (w : World) (hT : Lib.Utf8Tabs 0 1 w) : Calls Tryd.prog 6 #[.int .i64 a, .int .i64 b, .string m] w fun e w' => e = .returned (.bool true) ∧ Below w.heap.size w w' := by
  have F0 := Lib.hid hT
  have B0 := Lib.hid (Below.refl w.heap.size w)
  clear hT
  by_cases hl : 5000 < m.size
  · have HL := Lib.hid hl
    clear hl
    go_enter Tryd.func6, Tryd.ntmps6
    go_wp2_with fail
    refine (long_yes m HL.out _).mono ?_
    rintro e w' ⟨rfl, rfl⟩
    go_wp2_with fail
    refine (works_any _ F0.out).mono ?_
    rintro e w1 ⟨rfl, k1⟩
    have F1 := Lib.hid (Go.Proofs.Utf8Tabs_below F0.out k1)
    have B1 := Lib.hid (B0.out.trans (k1.mono B0.out.size))
    clear k1 F0 B0
    go_wp2_with fail
    go_ret
    exact ⟨rfl, B1.out⟩
  have HL : Hid (m.size ≤ 5000) := Lib.hid (by omega)
  have hm5 : m.size ≤ 5000 := by omega
  clear hl
  by_cases ha : isPt a = true
  · by_cases hb : isPt b = true
    · have ha0 : 0 ≤ a := by unfold isPt at ha; rw [decide_eq_true_eq] at ha; omega
      have hb0 : 0 ≤ b := by unfold isPt at hb; rw [decide_eq_true_eq] at hb; omega
      obtain ⟨n, rfl⟩ := Int.eq_ofNat_of_zero_le ha0
      obtain ⟨k, rfl⟩ := Int.eq_ofNat_of_zero_le hb0
      have C1 := Lib.hid (fun w => enc_yes (n : Int) ha w)
      have C2 := Lib.hid (fun w => enc_yes (k : Int) hb w)
      rw [Int.toNat_natCast] at C1 C2
      obtain ⟨s, hs⟩ : ∃ s : ByteArray, s = ⟨(encL n).toArray⟩ := ⟨_, rfl⟩
      obtain ⟨t, ht⟩ : ∃ t : ByteArray, t = ⟨(encL k).toArray⟩ := ⟨_, rfl⟩
      rw [← hs] at C1
      rw [← ht] at C2
      have hsl : s.data.toList = encL n := by rw [hs]
      have htl : t.data.toList = encL k := by rw [ht]
      have hsz : s.size = (encL n).length := by rw [hs]; rfl
      have hlen := encL_len n
      have hd := decP_zero (s ++ m) n m.data.toList (by rw [data_append, hsl]) ha
      have C3 := Lib.hid (fun w hT => decode_any (s ++ m) 0 w hT)
      rw [hd.1, hd.2, ← hsz] at C3
      have C4 := Lib.hid (fun w hT => valid_any s w hT)
      rw [hsl, valid_enc n ha] at C4
      have C5 := Lib.hid (fun w => Tryd.strings_HasPrefix s t w)
      rw [hsl, htl, prefix_is n k ha hb] at C5
      have h1 : 1 ≤ s.size := by omega
      have h4 : s.size ≤ 4 := by omega
      have hsum : ¬ 9223372036854775807 < s.size + m.size := by omega
      have d1 : decide ((s.size : Int) < 1) = false := by simp; omega
      have d4 : decide (4 < (s.size : Int)) = false := by simp; omega
      have de : (decide ((n : Int) = (k : Int)) == ((n : Int) == (k : Int))) = true := by
        rw [beq_iff_eq, Bool.eq_iff_iff]
        simp
      clear ha hb ha0 hb0 hs ht hsl htl hsz hlen hd
      generalize decide ((n : Int) = (k : Int)) = q at *
      go_enter Tryd.func6, Tryd.ntmps6
      go_wp2_with fail
      refine (long_no m HL.out _).mono ?_
      rintro e w' ⟨rfl, rfl⟩
      go_wp2_with fail
      refine (C1.out _).mono ?_
      rintro e w' ⟨rfl, rfl⟩
      go_wp2_with fail
      refine (C2.out _).mono ?_
      rintro e w' ⟨rfl, rfl⟩
      go_wp2_with fail
      refine (C3.out _ F0.out).mono ?_
      rintro e w1 ⟨rfl, k1⟩
      have F1 := Lib.hid (Go.Proofs.Utf8Tabs_below F0.out k1)
      have B1 := Lib.hid (B0.out.trans (k1.mono B0.out.size))
      clear k1 F0 B0
      go_wp2_with fail
      refine (C4.out _ F1.out).mono ?_
      rintro e w2 ⟨rfl, k2⟩
      have F2 := Lib.hid (Go.Proofs.Utf8Tabs_below F1.out k2)
      have B2 := Lib.hid (B1.out.trans (k2.mono B1.out.size))
      clear k2 F1 B1
      go_wp2_with fail
      refine (C5.out _).mono ?_
      rintro e w' ⟨rfl, hw'⟩
      subst hw'
      go_wp2_with fail
      refine (works_any _ F2.out).mono ?_
      rintro e w3 ⟨rfl, k3⟩
      have F3 := Lib.hid (Go.Proofs.Utf8Tabs_below F2.out k3)
      have B3 := Lib.hid (B2.out.trans (k3.mono B2.out.size))
      clear k3 F2 B2
      go_wp2_with fail
      go_ret
      exact ⟨rfl, B3.out⟩
    · have hb2 : isPt b = false := by simpa using hb
      have C1 := Lib.hid (fun w => enc_yes a ha w)
      have C2 := Lib.hid (fun w => enc_no b hb2 w)
      generalize encL a.toNat = l at *
      clear ha hb hb2
      go_enter Tryd.func6, Tryd.ntmps6
      go_wp2_with fail
      refine (long_no m HL.out _).mono ?_
      rintro e w' ⟨rfl, rfl⟩
      go_wp2_with fail
      refine (C1.out _).mono ?_
      rintro e w' ⟨rfl, rfl⟩
      go_wp2_with fail
      refine (C2.out _).mono ?_
      rintro e w' ⟨rfl, rfl⟩
      go_wp2_with fail
      refine (works_any _ F0.out).mono ?_
      rintro e w1 ⟨rfl, k1⟩
      have F1 := Lib.hid (Go.Proofs.Utf8Tabs_below F0.out k1)
      have B1 := Lib.hid (B0.out.trans (k1.mono B0.out.size))
      clear k1 F0 B0
      go_wp2_with fail
      go_ret
      exact ⟨rfl, B1.out⟩
  · have ha2 : isPt a = false := by simpa using ha
    have C1 := Lib.hid (fun w => enc_no a ha2 w)
    clear ha ha2
    by_cases hb : isPt b = true
    · have C2 := Lib.hid (fun w => enc_yes b hb w)
      generalize encL b.toNat = l at *
      clear hb
      go_enter Tryd.func6, Tryd.ntmps6
      go_wp2_with fail
      refine (long_no m HL.out _).mono ?_
      rintro e w' ⟨rfl, rfl⟩
      go_wp2_with fail
      refine (C1.out _).mono ?_
      rintro e w' ⟨rfl, rfl⟩
      go_wp2_with fail
      refine (C2.out _).mono ?_
      rintro e w' ⟨rfl, rfl⟩
      go_wp2_with fail
      refine (works_any _ F0.out).mono ?_
      rintro e w1 ⟨rfl, k1⟩
      have F1 := Lib.hid (Go.Proofs.Utf8Tabs_below F0.out k1)
      have B1 := Lib.hid (B0.out.trans (k1.mono B0.out.size))
      clear k1 F0 B0
      go_wp2_with fail
      go_ret
      exact ⟨rfl, B1.out⟩
    · have hb2 : isPt b = false := by simpa using hb
      have C2 := Lib.hid (fun w => enc_no b hb2 w)
      clear hb hb2
      go_enter Tryd.func6, Tryd.ntmps6
      go_wp2_with fail
      refine (long_no m HL.out _).mono ?_
      rintro e w' ⟨rfl, rfl⟩
      go_wp2_with fail
      refine (C1.out _).mono ?_
      rintro e w' ⟨rfl, rfl⟩
      go_wp2_with fail
      refine (C2.out _).mono ?_
      rintro e w' ⟨rfl, rfl⟩
      go_wp2_with fail
      refine (works_any _ F0.out).mono ?_
      rintro e w1 ⟨rfl, k1⟩
      have F1 := Lib.hid (Go.Proofs.Utf8Tabs_below F0.out k1)
      have B1 := Lib.hid (B0.out.trans (k1.mono B0.out.size))
      clear k1 F0 B0
      go_wp2_with fail
      go_ret
      exact ⟨rfl, B1.out⟩
set_option maxRecDepth 100000 in
set_option maxHeartbeats 1000000 in
theorem joins_walk (a b : ByteArray) (w : World) (hT : Lib.Utf8Tabs 0 1 w) : Calls Tryd.prog 8 #[.string a, .string b] w fun e w' => e = .returned (.bool true) ∧ Below w.heap.size w w' := by
  have F0 := Lib.hid hT
  have B0 := Lib.hid (Below.refl w.heap.size w)
  clear hT
  by_cases hl : 5000 < a.size
  · have HL := Lib.hid hl
    clear hl
    go_enter Tryd.func8, Tryd.ntmps8
    go_wp2_with fail
    refine (long_yes a HL.out _).mono ?_
    rintro e w' ⟨rfl, rfl⟩
    go_wp2_with fail
    refine (works_any _ F0.out).mono ?_
    rintro e w1 ⟨rfl, k1⟩
    have F1 := Lib.hid (Go.Proofs.Utf8Tabs_below F0.out k1)
    have B1 := Lib.hid (B0.out.trans (k1.mono B0.out.size))
    clear k1 F0 B0
    go_wp2_with fail
    go_ret
    exact ⟨rfl, B1.out⟩
  have HL : Hid (a.size ≤ 5000) := Lib.hid (by omega)
  have h5 : a.size ≤ 5000 := by omega
  clear hl
  by_cases hl : 5000 < b.size
  · have HM := Lib.hid hl
    clear hl
    go_enter Tryd.func8, Tryd.ntmps8
    go_wp2_with fail
    refine (long_no a HL.out _).mono ?_
    rintro e w' ⟨rfl, rfl⟩
    go_wp2_with fail
    refine (long_yes b HM.out _).mono ?_
    rintro e w' ⟨rfl, rfl⟩
    go_wp2_with fail
    refine (works_any _ F0.out).mono ?_
    rintro e w1 ⟨rfl, k1⟩
    have F1 := Lib.hid (Go.Proofs.Utf8Tabs_below F0.out k1)
    have B1 := Lib.hid (B0.out.trans (k1.mono B0.out.size))
    clear k1 F0 B0
    go_wp2_with fail
    go_ret
    exact ⟨rfl, B1.out⟩
  have HM : Hid (b.size ≤ 5000) := Lib.hid (by omega)
  have h6 : b.size ≤ 5000 := by omega
  clear hl
  by_cases hv : valid a.data.toList = true
  · obtain ⟨j1, j2, j3, j4⟩ := joins b.data.toList a.data.toList hv
    rw [← data_append] at j1 j2 j3 j4
    rw [show a.data.toList.length = a.size from rfl] at j3 j4
    have hz : (a ++ b).size = a.size + b.size := by
      show (a ++ b).data.size = _
      rw [← Array.length_toList, data_append, List.length_append]
      rfl
    have HZ : Hid ((a ++ b).size ≤ 1000000) := Lib.hid (by omega)
    have HA : Hid (a.size ≤ 1000000) := Lib.hid (by omega)
    have HB : Hid (b.size ≤ 1000000) := Lib.hid (by omega)
    have hsum : ¬ 9223372036854775807 < a.size + b.size := by omega
    have ua := units_le a.data.toList
    have ub := units_le b.data.toList
    rw [show a.data.toList.length = a.size from rfl] at ua
    rw [show b.data.toList.length = b.size from rfl] at ub
    have CV := Lib.hid (fun w hT => valid_any a w hT)
    rw [hv] at CV
    have C1 := Lib.hid (fun w => units_any (a ++ b) HZ.out w)
    have C2 := Lib.hid (fun w => units_any a HA.out w)
    have C3 := Lib.hid (fun w => units_any b HB.out w)
    have C4 := Lib.hid (fun w hT => valid_any (a ++ b) w hT)
    have C5 := Lib.hid (fun w hT => valid_any b w hT)
    have C6 := Lib.hid (fun w => unitsAt_any (a ++ b) (a.size : Int) HZ.out w)
    have C7 := Lib.hid (fun w => byte_any (a ++ b) (units a.data.toList : Int) HZ.out w)
    rw [j1] at C1
    rw [j2] at C4
    rw [j3] at C6
    rw [j4] at C7
    clear j1 j2 j3 j4 hz hv
    generalize units a.data.toList = x at *
    generalize units b.data.toList = y at *
    generalize valid b.data.toList = v at *
    have ev : (v == v) = true := by simp
    have es : ((x + y : Nat) : Int) = (x : Int) + (y : Int) := by omega
    rw [es] at C1
    clear es
    go_enter Tryd.func8, Tryd.ntmps8
    go_wp2_with fail
    refine (long_no a HL.out _).mono ?_
    rintro e w' ⟨rfl, rfl⟩
    go_wp2_with fail
    refine (long_no b HM.out _).mono ?_
    rintro e w' ⟨rfl, rfl⟩
    go_wp2_with fail
    refine (CV.out _ F0.out).mono ?_
    rintro e w1 ⟨rfl, k1⟩
    have F1 := Lib.hid (Go.Proofs.Utf8Tabs_below F0.out k1)
    have B1 := Lib.hid (B0.out.trans (k1.mono B0.out.size))
    clear k1 F0 B0
    go_wp2_with fail
    refine (C1.out _).mono ?_
    rintro e w2 ⟨rfl, k2⟩
    have F2 := Lib.hid (Go.Proofs.Utf8Tabs_below F1.out k2)
    have B2 := Lib.hid (B1.out.trans (k2.mono B1.out.size))
    clear k2 F1 B1
    go_wp2_with fail
    refine (C2.out _).mono ?_
    rintro e w3 ⟨rfl, k3⟩
    have F3 := Lib.hid (Go.Proofs.Utf8Tabs_below F2.out k3)
    have B3 := Lib.hid (B2.out.trans (k3.mono B2.out.size))
    clear k3 F2 B2
    go_wp2_with fail
    refine (C3.out _).mono ?_
    rintro e w4 ⟨rfl, k4⟩
    have F4 := Lib.hid (Go.Proofs.Utf8Tabs_below F3.out k4)
    have B4 := Lib.hid (B3.out.trans (k4.mono B3.out.size))
    clear k4 F3 B3
    go_wp2_with fail
    refine (C4.out _ F4.out).mono ?_
    rintro e w5 ⟨rfl, k5⟩
    have F5 := Lib.hid (Go.Proofs.Utf8Tabs_below F4.out k5)
    have B5 := Lib.hid (B4.out.trans (k5.mono B4.out.size))
    clear k5 F4 B4
    go_wp2_with fail
    refine (C5.out _ F5.out).mono ?_
    rintro e w6 ⟨rfl, k6⟩
    have F6 := Lib.hid (Go.Proofs.Utf8Tabs_below F5.out k6)
    have B6 := Lib.hid (B5.out.trans (k6.mono B5.out.size))
    clear k6 F5 B5
    go_wp2_with fail
    refine (C6.out _).mono ?_
    rintro e w7 ⟨rfl, k7⟩
    have F7 := Lib.hid (Go.Proofs.Utf8Tabs_below F6.out k7)
    have B7 := Lib.hid (B6.out.trans (k7.mono B6.out.size))
    clear k7 F6 B6
    go_wp2_with fail
    refine (C2.out _).mono ?_
    rintro e w8 ⟨rfl, k8⟩
    have F8 := Lib.hid (Go.Proofs.Utf8Tabs_below F7.out k8)
    have B8 := Lib.hid (B7.out.trans (k8.mono B7.out.size))
    clear k8 F7 B7
    go_wp2_with fail
    refine (C2.out _).mono ?_
    rintro e w9 ⟨rfl, k9⟩
    have F9 := Lib.hid (Go.Proofs.Utf8Tabs_below F8.out k9)
    have B9 := Lib.hid (B8.out.trans (k9.mono B8.out.size))
    clear k9 F8 B8
    go_wp2_with fail
    refine (C7.out _).mono ?_
    rintro e w10 ⟨rfl, k10⟩
    have F10 := Lib.hid (Go.Proofs.Utf8Tabs_below F9.out k10)
    have B10 := Lib.hid (B9.out.trans (k10.mono B9.out.size))
    clear k10 F9 B9
    go_wp2_with fail
    refine (works_any _ F10.out).mono ?_
    rintro e w11 ⟨rfl, k11⟩
    have F11 := Lib.hid (Go.Proofs.Utf8Tabs_below F10.out k11)
    have B11 := Lib.hid (B10.out.trans (k11.mono B10.out.size))
    clear k11 F10 B10
    go_wp2_with fail
    go_ret
    exact ⟨rfl, B11.out⟩
  · have hv2 : valid a.data.toList = false := by simpa using hv
    have CV := Lib.hid (fun w hT => valid_any a w hT)
    rw [hv2] at CV
    clear hv hv2
    go_enter Tryd.func8, Tryd.ntmps8
    go_wp2_with fail
    refine (long_no a HL.out _).mono ?_
    rintro e w' ⟨rfl, rfl⟩
    go_wp2_with fail
    refine (long_no b HM.out _).mono ?_
    rintro e w' ⟨rfl, rfl⟩
    go_wp2_with fail
    refine (CV.out _ F0.out).mono ?_
    rintro e w1 ⟨rfl, k1⟩
    have F1 := Lib.hid (Go.Proofs.Utf8Tabs_below F0.out k1)
    have B1 := Lib.hid (B0.out.trans (k1.mono B0.out.size))
    clear k1 F0 B0
    go_wp2_with fail
    refine (works_any _ F1.out).mono ?_
    rintro e w2 ⟨rfl, k2⟩
    have F2 := Lib.hid (Go.Proofs.Utf8Tabs_below F1.out k2)
    have B2 := Lib.hid (B1.out.trans (k2.mono B1.out.size))
    clear k2 F1 B1
    go_wp2_with fail
    go_ret
    exact ⟨rfl, B2.out⟩
end Go.Proofs.YtpeeeoejjplniaaDoor
