/-
  THE WALK OF emendlaw06.LinesAhead: at every two texts and Pos below 2^16 it returns true; no memory that was there turns. No condition.
-/
import Derived.Test.YtnmbclkpncjebaaWorks
import Derived.Deep.DeepCutAuto
namespace Go.Proofs.Ytnmbclkpncjebaa
open Go.RowKit

theorem suffix_one (l : List UInt8) (c : UInt8) : Lib.hasSuffix l [c] = (l.getLast? == some c) := by
  unfold Lib.hasSuffix
  rw [List.isSuffixOf, List.getLast?_eq_head?_reverse]
  cases l.reverse with
  | nil => rfl
  | cons x t => simp [List.isPrefixOf, Bool.beq_comm]
theorem prefix_one (l : List UInt8) (c : UInt8) : Lib.hasPrefix l [c] = (l.head? == some c) := by
  unfold Lib.hasPrefix
  cases l with
  | nil => rfl
  | cons x t => simp [List.isPrefixOf, Bool.beq_comm]
set_option maxRecDepth 100000 in
set_option maxHeartbeats 8000000 in
theorem linesAhead_walk (a b : ByteArray) (a0 a1 : Int) (h0 : 0 ≤ a0) (g0 : a0 ≤ 65535) (h1 : 0 ≤ a1) (g1 : a1 ≤ 65535) (w : World) : Calls Try.prog 8 #[.string a, .string b, .agg #[.int .u16 a0, .int .u16 a1]] w fun e w' => e = .returned (.bool true) ∧ Below w.heap.size w w' := by
  obtain ⟨i, rfl⟩ := Int.eq_ofNat_of_zero_le h0
  obtain ⟨u, rfl⟩ := Int.eq_ofNat_of_zero_le h1
  by_cases ha : 3000 < a.size
  · go_enter Try.func8, Try.ntmps8
    have B1 := Lib.hid (alloc_below (w) (.cells #[.int .u16 (i : Int), .int .u16 (u : Int)] 50))
    have Kp1 := alloc_top (w) #[.int .u16 (i : Int), .int .u16 (u : Int)] 50
    replace Kp1 := Lib.hid Kp1
    have cp0 := cell_at (i := 0) Kp1.out
    have cp1 := cell_at (i := 1) Kp1.out
    go_wp2_with fail
    refine (long_yes a ha _).mono ?_
    rintro e w' ⟨rfl, rfl⟩
    go_wp2_with fail
    refine (works_any _).mono ?_
    rintro e w1 ⟨rfl, k1⟩
    clear cp0 cp1
    have Kp2 := Lib.hid (heap_keep k1 Kp1.out)
    clear Kp1
    have B2 := Lib.hid (B1.out.trans (k1.mono B1.out.size))
    clear k1 B1
    have cp0 := cell_at (i := 0) Kp2.out
    have cp1 := cell_at (i := 1) Kp2.out
    go_wp2_with fail
    go_ret
    exact ⟨rfl, B2.out⟩
  by_cases hb : 3000 < b.size
  · go_enter Try.func8, Try.ntmps8
    have B1 := Lib.hid (alloc_below (w) (.cells #[.int .u16 (i : Int), .int .u16 (u : Int)] 50))
    have Kp1 := alloc_top (w) #[.int .u16 (i : Int), .int .u16 (u : Int)] 50
    replace Kp1 := Lib.hid Kp1
    have cp0 := cell_at (i := 0) Kp1.out
    have cp1 := cell_at (i := 1) Kp1.out
    go_wp2_with fail
    refine (long_no a (by omega) _).mono ?_
    rintro e w' ⟨rfl, rfl⟩
    go_wp2_with fail
    refine (long_yes b hb _).mono ?_
    rintro e w' ⟨rfl, rfl⟩
    go_wp2_with fail
    refine (works_any _).mono ?_
    rintro e w1 ⟨rfl, k1⟩
    clear cp0 cp1
    have Kp2 := Lib.hid (heap_keep k1 Kp1.out)
    clear Kp1
    have B2 := Lib.hid (B1.out.trans (k1.mono B1.out.size))
    clear k1 B1
    have cp0 := cell_at (i := 0) Kp2.out
    have cp1 := cell_at (i := 1) Kp2.out
    go_wp2_with fail
    go_ret
    exact ⟨rfl, B2.out⟩
  have HG := Lib.hid (long_no a (by omega))
  have HH := Lib.hid (long_no b (by omega))
  have HS := Lib.hid (fun w => Try.strings_HasSuffix a ⟨#[13]⟩ w (by omega))
  have HP := Lib.hid (fun w => Try.strings_HasPrefix b ⟨#[10]⟩ w)
  rw [show ((⟨#[13]⟩ : ByteArray).data.toList) = [13] from rfl, suffix_one] at HS
  rw [show ((⟨#[10]⟩ : ByteArray).data.toList) = [10] from rfl, prefix_one] at HP
  by_cases hsx : (a.data.toList.getLast? == some 13) = true
  · rw [hsx] at HS
    by_cases hpx : (b.data.toList.head? == some 10) = true
    · rw [hpx] at HP
      clear hsx hpx
      go_enter Try.func8, Try.ntmps8
      have B1 := Lib.hid (alloc_below (w) (.cells #[.int .u16 (i : Int), .int .u16 (u : Int)] 50))
      have Kp1 := alloc_top (w) #[.int .u16 (i : Int), .int .u16 (u : Int)] 50
      replace Kp1 := Lib.hid Kp1
      have cp0 := cell_at (i := 0) Kp1.out
      have cp1 := cell_at (i := 1) Kp1.out
      go_wp2_with fail
      refine (HG.out _).mono ?_
      rintro e w' ⟨rfl, rfl⟩
      go_wp2_with fail
      refine (HH.out _).mono ?_
      rintro e w' ⟨rfl, rfl⟩
      go_wp2_with fail
      refine (HS.out _).mono ?_
      rintro e w' ⟨rfl, rfl⟩
      go_wp2_with fail
      refine (HP.out _).mono ?_
      rintro e w' ⟨rfl, rfl⟩
      go_wp2_with fail
      refine (works_any _).mono ?_
      rintro e w1 ⟨rfl, k1⟩
      clear cp0 cp1
      have Kp2 := Lib.hid (heap_keep k1 Kp1.out)
      clear Kp1
      have B2 := Lib.hid (B1.out.trans (k1.mono B1.out.size))
      clear k1 B1
      have cp0 := cell_at (i := 0) Kp2.out
      have cp1 := cell_at (i := 1) Kp2.out
      go_wp2_with fail
      go_ret
      exact ⟨rfl, B2.out⟩
    · have hpx' : (b.data.toList.head? == some 10) = false := by simpa using hpx
      rw [hpx'] at HP
      have HA := Lib.hid (apart a.data.toList b.data.toList (fun _ h => hpx (by rw [h]; rfl)))
      clear hsx hpx hpx'
      have hla := rows_len a.data.toList 0
      have hlb := rows_len b.data.toList 0
      rw [show a.data.toList.length = a.size from rfl] at hla
      rw [show b.data.toList.length = b.size from rfl] at hlb
      have hab : (a ++ b).data.toList = a.data.toList ++ b.data.toList := by rw [ByteArray.data_append, Array.toList_append]
      have hsz : (a ++ b).size = a.size + b.size := ByteArray.size_append
      have hpa := rows_pos a.data.toList 0
      have hpb := rows_pos b.data.toList 0
      have hcnt := HA.out.count
      have HO := Lib.hid HA.out.off
      have HL := Lib.hid HA.out.line
      have HX := Lib.hid HA.out.char
      have H1 := Lib.hid (fun w => count_any a (by omega) w)
      have H2 := Lib.hid (fun w => count_any (a ++ b) (by omega) w)
      have H3 := Lib.hid (fun w => count_any b (by omega) w)
      have H4 := Lib.hid (fun w => offset_any a (by omega) (i : Int) (u : Int) w)
      have H5 := Lib.hid (fun w => offset_any (a ++ b) (by omega) (i : Int) (u : Int) w)
      have H6 := Lib.hid (fun p w => at_any a (by omega) p w)
      have H7 := Lib.hid (fun p w => at_any (a ++ b) (by omega) p w)
      have hle := offP_le a.data.toList (i : Int) (u : Int)
      rw [show a.data.toList.length = a.size from rfl] at hle
      unfold offW offE at H4 H5
      rw [if_neg (by omega), if_neg (by omega)] at H4 H5
      rw [hab] at H2 H5 H7
      generalize (rows (a.data.toList ++ b.data.toList) 0).length = nab at *
      have HN : Hid ((rows a.data.toList 0).length = (rows a.data.toList 0).length) := Lib.hid rfl
      generalize hna : (rows a.data.toList 0).length = na at *
      generalize (rows b.data.toList 0).length = nb at *
      have hne : ((nab : Int) != (na : Int) + (nb : Int) - 1) = false := by
        have : (nab : Int) = (na : Int) + (nb : Int) - 1 := by omega
        simp [this]
      clear hcnt HA
      go_enter Try.func8, Try.ntmps8
      have B1 := Lib.hid (alloc_below (w) (.cells #[.int .u16 (i : Int), .int .u16 (u : Int)] 50))
      have Kp1 := alloc_top (w) #[.int .u16 (i : Int), .int .u16 (u : Int)] 50
      replace Kp1 := Lib.hid Kp1
      have cp0 := cell_at (i := 0) Kp1.out
      have cp1 := cell_at (i := 1) Kp1.out
      go_wp2_with fail
      refine (HG.out _).mono ?_
      rintro e w' ⟨rfl, rfl⟩
      go_wp2_with fail
      refine (HH.out _).mono ?_
      rintro e w' ⟨rfl, rfl⟩
      go_wp2_with fail
      refine (HS.out _).mono ?_
      rintro e w' ⟨rfl, rfl⟩
      go_wp2_with fail
      refine (HP.out _).mono ?_
      rintro e w' ⟨rfl, rfl⟩
      go_wp2_with fail
      refine (H1.out _).mono ?_
      rintro e w1 ⟨rfl, k1⟩
      clear cp0 cp1
      have Kp2 := Lib.hid (heap_keep k1 Kp1.out)
      clear Kp1
      have B2 := Lib.hid (B1.out.trans (k1.mono B1.out.size))
      clear k1 B1
      have cp0 := cell_at (i := 0) Kp2.out
      have cp1 := cell_at (i := 1) Kp2.out
      go_wp2_with fail
      refine (H2.out _).mono ?_
      rintro e w2 ⟨rfl, k2⟩
      clear cp0 cp1
      have Kp3 := Lib.hid (heap_keep k2 Kp2.out)
      clear Kp2
      have B3 := Lib.hid (B2.out.trans (k2.mono B2.out.size))
      clear k2 B2
      have cp0 := cell_at (i := 0) Kp3.out
      have cp1 := cell_at (i := 1) Kp3.out
      go_wp2_with fail
      refine (H3.out _).mono ?_
      rintro e w3 ⟨rfl, k3⟩
      clear cp0 cp1
      have Kp4 := Lib.hid (heap_keep k3 Kp3.out)
      clear Kp3
      have B4 := Lib.hid (B3.out.trans (k3.mono B3.out.size))
      clear k3 B3
      have cp0 := cell_at (i := 0) Kp4.out
      have cp1 := cell_at (i := 1) Kp4.out
      by_cases hi : na ≤ i + 1
      · go_wp2_with fail
        refine (works_any _).mono ?_
        rintro e w4 ⟨rfl, k4⟩
        clear cp0 cp1
        have Kp5 := Lib.hid (heap_keep k4 Kp4.out)
        clear Kp4
        have B5 := Lib.hid (B4.out.trans (k4.mono B4.out.size))
        clear k4 B4
        have cp0 := cell_at (i := 0) Kp5.out
        have cp1 := cell_at (i := 1) Kp5.out
        go_wp2_with fail
        go_ret
        exact ⟨rfl, B5.out⟩
      · have HF := Lib.hid (And.intro (HO.out i u (by omega)) (And.intro (HL.out i u (by omega)) (HX.out i u (by omega))))
        rw [HF.out.1] at H5
        have HC6 := Lib.hid (fun w => H6.out (offP a.data.toList (i : Int) (u : Int) : Int) w)
        have HC7 := Lib.hid (fun w => H7.out (offP a.data.toList (i : Int) (u : Int) : Int) w)
        rw [clip_nat _ _ (by rw [show a.data.toList.length = a.size from rfl]; exact hle)] at HC6
        rw [clip_nat _ _ (by rw [List.length_append, show a.data.toList.length = a.size from rfl]; omega), HF.out.2.1, HF.out.2.2] at HC7
        generalize lineN a.data.toList (offP a.data.toList (i : Int) (u : Int)) = lx at *
        generalize charP a.data.toList (offP a.data.toList (i : Int) (u : Int)) = cx at *
        generalize offP a.data.toList (i : Int) (u : Int) = o at *
        clear HF HO HL HX H6 H7
        go_wp2_with fail
        refine (H4.out _).mono ?_
        rintro e w4 ⟨rfl, k4⟩
        clear cp0 cp1
        have Kp5 := Lib.hid (heap_keep k4 Kp4.out)
        clear Kp4
        have B5 := Lib.hid (B4.out.trans (k4.mono B4.out.size))
        clear k4 B4
        have cp0 := cell_at (i := 0) Kp5.out
        have cp1 := cell_at (i := 1) Kp5.out
        go_wp2_with fail
        refine (H5.out _).mono ?_
        rintro e w5 ⟨rfl, k5⟩
        clear cp0 cp1
        have Kp6 := Lib.hid (heap_keep k5 Kp5.out)
        clear Kp5
        have B6 := Lib.hid (B5.out.trans (k5.mono B5.out.size))
        clear k5 B5
        have cp0 := cell_at (i := 0) Kp6.out
        have cp1 := cell_at (i := 1) Kp6.out
        go_wp2_with fail
        refine (HC7.out _).mono ?_
        rintro e w6 ⟨rfl, k6⟩
        clear cp0 cp1
        have Kp7 := Lib.hid (heap_keep k6 Kp6.out)
        clear Kp6
        have B7 := Lib.hid (B6.out.trans (k6.mono B6.out.size))
        clear k6 B6
        have cp0 := cell_at (i := 0) Kp7.out
        have cp1 := cell_at (i := 1) Kp7.out
        go_wp2_with fail
        refine (HC6.out _).mono ?_
        rintro e w7 ⟨rfl, k7⟩
        clear cp0 cp1
        have Kp8 := Lib.hid (heap_keep k7 Kp7.out)
        clear Kp7
        have B8 := Lib.hid (B7.out.trans (k7.mono B7.out.size))
        clear k7 B7
        have cp0 := cell_at (i := 0) Kp8.out
        have cp1 := cell_at (i := 1) Kp8.out
        go_wp2_with fail
        refine (works_any _).mono ?_
        rintro e w8 ⟨rfl, k8⟩
        clear cp0 cp1
        have Kp9 := Lib.hid (heap_keep k8 Kp8.out)
        clear Kp8
        have B9 := Lib.hid (B8.out.trans (k8.mono B8.out.size))
        clear k8 B8
        have cp0 := cell_at (i := 0) Kp9.out
        have cp1 := cell_at (i := 1) Kp9.out
        go_wp2_with fail
        go_ret
        exact ⟨rfl, B9.out⟩
  · have hsx' : (a.data.toList.getLast? == some 13) = false := by simpa using hsx
    rw [hsx'] at HS
    have HA := Lib.hid (apart a.data.toList b.data.toList (fun h => absurd (by rw [h]; rfl) hsx))
    clear hsx hsx' HP
    have hla := rows_len a.data.toList 0
    have hlb := rows_len b.data.toList 0
    rw [show a.data.toList.length = a.size from rfl] at hla
    rw [show b.data.toList.length = b.size from rfl] at hlb
    have hab : (a ++ b).data.toList = a.data.toList ++ b.data.toList := by rw [ByteArray.data_append, Array.toList_append]
    have hsz : (a ++ b).size = a.size + b.size := ByteArray.size_append
    have hpa := rows_pos a.data.toList 0
    have hpb := rows_pos b.data.toList 0
    have hcnt := HA.out.count
    have HO := Lib.hid HA.out.off
    have HL := Lib.hid HA.out.line
    have HX := Lib.hid HA.out.char
    have H1 := Lib.hid (fun w => count_any a (by omega) w)
    have H2 := Lib.hid (fun w => count_any (a ++ b) (by omega) w)
    have H3 := Lib.hid (fun w => count_any b (by omega) w)
    have H4 := Lib.hid (fun w => offset_any a (by omega) (i : Int) (u : Int) w)
    have H5 := Lib.hid (fun w => offset_any (a ++ b) (by omega) (i : Int) (u : Int) w)
    have H6 := Lib.hid (fun p w => at_any a (by omega) p w)
    have H7 := Lib.hid (fun p w => at_any (a ++ b) (by omega) p w)
    have hle := offP_le a.data.toList (i : Int) (u : Int)
    rw [show a.data.toList.length = a.size from rfl] at hle
    unfold offW offE at H4 H5
    rw [if_neg (by omega), if_neg (by omega)] at H4 H5
    rw [hab] at H2 H5 H7
    generalize (rows (a.data.toList ++ b.data.toList) 0).length = nab at *
    have HN : Hid ((rows a.data.toList 0).length = (rows a.data.toList 0).length) := Lib.hid rfl
    generalize hna : (rows a.data.toList 0).length = na at *
    generalize (rows b.data.toList 0).length = nb at *
    have hne : ((nab : Int) != (na : Int) + (nb : Int) - 1) = false := by
      have : (nab : Int) = (na : Int) + (nb : Int) - 1 := by omega
      simp [this]
    clear hcnt HA
    go_enter Try.func8, Try.ntmps8
    have B1 := Lib.hid (alloc_below (w) (.cells #[.int .u16 (i : Int), .int .u16 (u : Int)] 50))
    have Kp1 := alloc_top (w) #[.int .u16 (i : Int), .int .u16 (u : Int)] 50
    replace Kp1 := Lib.hid Kp1
    have cp0 := cell_at (i := 0) Kp1.out
    have cp1 := cell_at (i := 1) Kp1.out
    go_wp2_with fail
    refine (HG.out _).mono ?_
    rintro e w' ⟨rfl, rfl⟩
    go_wp2_with fail
    refine (HH.out _).mono ?_
    rintro e w' ⟨rfl, rfl⟩
    go_wp2_with fail
    refine (HS.out _).mono ?_
    rintro e w' ⟨rfl, rfl⟩
    go_wp2_with fail
    refine (H1.out _).mono ?_
    rintro e w1 ⟨rfl, k1⟩
    clear cp0 cp1
    have Kp2 := Lib.hid (heap_keep k1 Kp1.out)
    clear Kp1
    have B2 := Lib.hid (B1.out.trans (k1.mono B1.out.size))
    clear k1 B1
    have cp0 := cell_at (i := 0) Kp2.out
    have cp1 := cell_at (i := 1) Kp2.out
    go_wp2_with fail
    refine (H2.out _).mono ?_
    rintro e w2 ⟨rfl, k2⟩
    clear cp0 cp1
    have Kp3 := Lib.hid (heap_keep k2 Kp2.out)
    clear Kp2
    have B3 := Lib.hid (B2.out.trans (k2.mono B2.out.size))
    clear k2 B2
    have cp0 := cell_at (i := 0) Kp3.out
    have cp1 := cell_at (i := 1) Kp3.out
    go_wp2_with fail
    refine (H3.out _).mono ?_
    rintro e w3 ⟨rfl, k3⟩
    clear cp0 cp1
    have Kp4 := Lib.hid (heap_keep k3 Kp3.out)
    clear Kp3
    have B4 := Lib.hid (B3.out.trans (k3.mono B3.out.size))
    clear k3 B3
    have cp0 := cell_at (i := 0) Kp4.out
    have cp1 := cell_at (i := 1) Kp4.out
    by_cases hi : na ≤ i + 1
    · go_wp2_with fail
      refine (works_any _).mono ?_
      rintro e w4 ⟨rfl, k4⟩
      clear cp0 cp1
      have Kp5 := Lib.hid (heap_keep k4 Kp4.out)
      clear Kp4
      have B5 := Lib.hid (B4.out.trans (k4.mono B4.out.size))
      clear k4 B4
      have cp0 := cell_at (i := 0) Kp5.out
      have cp1 := cell_at (i := 1) Kp5.out
      go_wp2_with fail
      go_ret
      exact ⟨rfl, B5.out⟩
    · have HF := Lib.hid (And.intro (HO.out i u (by omega)) (And.intro (HL.out i u (by omega)) (HX.out i u (by omega))))
      rw [HF.out.1] at H5
      have HC6 := Lib.hid (fun w => H6.out (offP a.data.toList (i : Int) (u : Int) : Int) w)
      have HC7 := Lib.hid (fun w => H7.out (offP a.data.toList (i : Int) (u : Int) : Int) w)
      rw [clip_nat _ _ (by rw [show a.data.toList.length = a.size from rfl]; exact hle)] at HC6
      rw [clip_nat _ _ (by rw [List.length_append, show a.data.toList.length = a.size from rfl]; omega), HF.out.2.1, HF.out.2.2] at HC7
      generalize lineN a.data.toList (offP a.data.toList (i : Int) (u : Int)) = lx at *
      generalize charP a.data.toList (offP a.data.toList (i : Int) (u : Int)) = cx at *
      generalize offP a.data.toList (i : Int) (u : Int) = o at *
      clear HF HO HL HX H6 H7
      go_wp2_with fail
      refine (H4.out _).mono ?_
      rintro e w4 ⟨rfl, k4⟩
      clear cp0 cp1
      have Kp5 := Lib.hid (heap_keep k4 Kp4.out)
      clear Kp4
      have B5 := Lib.hid (B4.out.trans (k4.mono B4.out.size))
      clear k4 B4
      have cp0 := cell_at (i := 0) Kp5.out
      have cp1 := cell_at (i := 1) Kp5.out
      go_wp2_with fail
      refine (H5.out _).mono ?_
      rintro e w5 ⟨rfl, k5⟩
      clear cp0 cp1
      have Kp6 := Lib.hid (heap_keep k5 Kp5.out)
      clear Kp5
      have B6 := Lib.hid (B5.out.trans (k5.mono B5.out.size))
      clear k5 B5
      have cp0 := cell_at (i := 0) Kp6.out
      have cp1 := cell_at (i := 1) Kp6.out
      go_wp2_with fail
      refine (HC7.out _).mono ?_
      rintro e w6 ⟨rfl, k6⟩
      clear cp0 cp1
      have Kp7 := Lib.hid (heap_keep k6 Kp6.out)
      clear Kp6
      have B7 := Lib.hid (B6.out.trans (k6.mono B6.out.size))
      clear k6 B6
      have cp0 := cell_at (i := 0) Kp7.out
      have cp1 := cell_at (i := 1) Kp7.out
      go_wp2_with fail
      refine (HC6.out _).mono ?_
      rintro e w7 ⟨rfl, k7⟩
      clear cp0 cp1
      have Kp8 := Lib.hid (heap_keep k7 Kp7.out)
      clear Kp7
      have B8 := Lib.hid (B7.out.trans (k7.mono B7.out.size))
      clear k7 B7
      have cp0 := cell_at (i := 0) Kp8.out
      have cp1 := cell_at (i := 1) Kp8.out
      go_wp2_with fail
      refine (works_any _).mono ?_
      rintro e w8 ⟨rfl, k8⟩
      clear cp0 cp1
      have Kp9 := Lib.hid (heap_keep k8 Kp8.out)
      clear Kp8
      have B9 := Lib.hid (B8.out.trans (k8.mono B8.out.size))
      clear k8 B8
      have cp0 := cell_at (i := 0) Kp9.out
      have cp1 := cell_at (i := 1) Kp9.out
      go_wp2_with fail
      go_ret
      exact ⟨rfl, B9.out⟩
end Go.Proofs.Ytnmbclkpncjebaa
