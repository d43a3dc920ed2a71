/-
  emendref03.numbered AT EVERY TEXT of at most 1000000 bytes, from every place of it: where the number ends that begins there; the world is as it was. Condition: the text's length.
-/
import Derived.Test.YtmkjoonbjmieoaaGreatDoorQRefHex
import Derived.Deep.DeepCutAuto
namespace Go.Proofs.YtmkjoonbjmieoaaGreatDoor
open Go.RowKit

theorem digit48 (l : List UInt8) (h : fst (is1 48) l = true) : fst isD l = true := by
  cases l with
  | nil => cases h
  | cons c l =>
    have h2 : is1 48 c = true := h
    show isD c = true
    rw [is1_eq, decide_eq_true_eq] at h2
    rw [isD_eq, h2]; decide
theorem isE_two (l : List UInt8) : fst isE l = (fst (is1 101) l || fst (is1 69) l) := by
  cases l with
  | nil => rfl
  | cons c l =>
    show isE c = (is1 101 c || is1 69 c)
    simp [isE, is1]
theorem isS_two (l : List UInt8) : fst isS l = (fst (is1 43) l || fst (is1 45) l) := by
  cases l with
  | nil => rfl
  | cons c l =>
    show isS c = (is1 43 c || is1 45 c)
    simp [isS, is1]
theorem whole_zero (l : List UInt8) (h : fst isD l = false) : wholeLen l = 0 := by
  unfold wholeLen
  rw [if_neg (fun h2 => by rw [digit48 l h2] at h; cases h)]
  exact run_no _ _ h
set_option maxRecDepth 100000 in
set_option maxHeartbeats 2000000 in
theorem numbered_any (s : ByteArray) (k : Nat) (hk : k ≤ s.size) (hs : s.size ≤ 1000000) (w : World) :
    Calls Tryz.prog 106 #[.string s, .int .i64 k] w fun e w' => e = .returned (.int .i64 ((k + numLen (rest s k) : Nat) : Int)) ∧ w = w' := by
  have HM := Lib.hid (fun w => is_any s k 45 w)
  have hm := minLen_le (rest s k)
  rw [rest_len] at hm
  have hmb : fst (is1 45) (rest s k) = decide (minLen (rest s k) = 1) := by
    unfold minLen
    by_cases h : fst (is1 45) (rest s k) = true
    · rw [if_pos h, h]; rfl
    · rw [if_neg h]; simpa using h
  rw [hmb] at HM
  obtain ⟨N, hN⟩ : ∃ N, N = numLen (rest s k) := ⟨_, rfl⟩
  rw [← hN]
  have hNN := hN
  unfold numLen at hNN
  simp only [rest_drop] at hNN
  clear hN hmb
  generalize minLen (rest s k) = m at *
  have HNN := Lib.hid hNN
  clear hNN
  have HD := Lib.hid (fun w => digit_any s (k + m) w)
  go_enter Tryz.func106, Tryz.ntmps106
  go_wp2_with fail
  refine (HM.out _).mono ?_
  rintro e w' ⟨rfl, rfl⟩
  go_upto_if 10 with fail
  go_cut [5] (fun v wx => v = .int .i64 ((k + m : Nat) : Int) ∧ w = wx)
  case first =>
    rcases (show m = 0 ∨ m = 1 by omega) with rfl | rfl
    · go_wp2_with fail
      go_meet
      exact ⟨rfl, rfl⟩
    · go_wp2_with fail
      go_meet
      exact ⟨by go_num, rfl⟩
  case rest =>
    obtain ⟨rfl, rfl⟩ := hcut
    clear HM
    have HW := Lib.hid (whole_zero (rest s (k + m)))
    by_cases hd : fst isD (rest s (k + m)) = true
    · have hin : k + m < s.size := by have := fst_len _ _ hd; rw [rest_len] at this; omega
      rw [hd] at HD
      have hwl := wholeLen_le (rest s (k + m))
      rw [rest_len] at hwl
      have ha0 : wholeLen (rest s (k + m)) ≠ 0 := by
        unfold wholeLen
        split
        · omega
        · rw [run_yes isD _ hd]; omega
      have HA : Hid (wholeLen (rest s (k + m)) = if fst (is1 48) (rest s (k + m)) then 1 else run isD (rest s (k + m))) := Lib.hid rfl
      have hnn := HNN.out
      rw [if_neg ha0] at hnn
      clear HNN HW
      have hn2 : k + N = k + m + wholeLen (rest s (k + m)) + fracLen (rest s (k + m + wholeLen (rest s (k + m)))) + expLen (rest s (k + m + wholeLen (rest s (k + m)) + fracLen (rest s (k + m + wholeLen (rest s (k + m)))))) := by
        rw [hnn]; simp only [← Nat.add_assoc]
      have HNN := Lib.hid hn2
      clear hnn hn2
      generalize wholeLen (rest s (k + m)) = a at *
      go_wp2_with fail
      refine (HD.out _).mono ?_
      rintro e w' ⟨rfl, rfl⟩
      go_upto_if 21 with fail
      go_cut [5] (fun v wx => v = .int .i64 ((k + m + a : Nat) : Int) ∧ w = wx)
      case first =>
        by_cases h48 : fst (is1 48) (rest s (k + m)) = true
        · have ha := HA.out
          rw [if_pos h48] at ha
          have hx : s[k + m].toNat = 48 := by
            rw [fst_at _ s (k + m) hin, is1_eq, decide_eq_true_eq] at h48; exact h48
          have q1 : (((s[k + m].toNat : Nat) : Int) == 48) = true := by rw [hx]; rfl
          clear hd HA
          go_wp2_with fail
          go_meet
          exact ⟨by go_num, rfl⟩
        · have ha := HA.out
          rw [if_neg h48] at ha
          have hx : s[k + m].toNat ≠ 48 := fun h => h48 (by rw [fst_at _ s (k + m) hin, is1_eq, decide_eq_true_eq]; exact h)
          have q1 : (((s[k + m].toNat : Nat) : Int) == 48) = false := by simp only [beq_eq_false_iff_ne, ne_eq]; omega
          have HA2 := Lib.hid ha
          clear hd HA ha
          rw [q1]
          go_wp2_with fail
          go_loop [5] (fun u => ∃ i : Nat, i ≤ s.size ∧ u = .int .i64 i ∧ Hid (i + run isD (rest s i) = k + m + a)) (fun u => s.size - (intOf u).toNat)
          case atStart => exact ⟨k + m, by omega, by go_num, Lib.hid (by rw [HA2.out])⟩
          case round =>
            obtain ⟨i, hi, rfl, hrel⟩ := hrel
            have HDI := Lib.hid (fun w => digit_any s i w)
            by_cases hdi : fst isD (rest s i) = true
            · have hlt : i < s.size := by have := fst_len _ _ hdi; rw [rest_len] at this; omega
              have HR : Hid (i + 1 + run isD (rest s (i + 1)) = k + m + a) := Lib.hid (by rw [← hrel.out, run_yes isD _ hdi, rest_drop]; omega)
              rw [hdi] at HDI
              clear hrel hdi
              go_wp2_with fail
              refine (HDI.out _).mono ?_
              rintro e w' ⟨rfl, rfl⟩
              go_wp2_with fail
              go_round
              case rel => exact ⟨i + 1, by omega, by go_num, HR⟩
              case measure => simp [intOf]; omega
            · have hdf : fst isD (rest s i) = false := by simpa using hdi
              have HR : Hid (i = k + m + a) := Lib.hid (by rw [← hrel.out, run_no isD _ hdf]; rfl)
              rw [hdf] at HDI
              clear hrel hdi hdf
              go_wp2_with fail
              refine (HDI.out _).mono ?_
              rintro e w' ⟨rfl, rfl⟩
              go_wp2_with fail
              go_meet
              exact ⟨by rw [HR.out], rfl⟩
      case rest =>
        obtain ⟨rfl, rfl⟩ := hcut
        clear HD HA hd
        have hka : k + m + a ≤ s.size := by omega
        have HP := Lib.hid (fun w => is_any s (k + m + a) 46 w)
        have HQ : Hid (∀ w, Calls Tryz.prog 134 #[.string s, .int .i64 (((k + m + a : Nat) : Int) + 1)] w fun e w' => e = .returned (.bool (fst isD (rest s (k + m + a + 1)))) ∧ w = w') := Lib.hid (fun w => digit_any s (k + m + a + 1) w)
        have hfl := fracLen_le (rest s (k + m + a))
        rw [rest_len] at hfl
        have HB : Hid (fracLen (rest s (k + m + a)) = if fst (is1 46) (rest s (k + m + a)) then (if run isD (rest s (k + m + a + 1)) = 0 then 0 else run isD (rest s (k + m + a + 1)) + 1) else 0) := Lib.hid (by unfold fracLen; rw [rest_drop])
        have HN2 := Lib.hid HNN.out
        clear HNN
        generalize fracLen (rest s (k + m + a)) = b at *
        generalize k + m + a = q at *
        go_upto_region 10 with fail
        go_cut [37] (fun v wx => v = .bool (fst (is1 46) (rest s q) && fst isD (rest s (q + 1))) ∧ w = wx)
        case first =>
          by_cases hp : fst (is1 46) (rest s q) = true
          · have HHP := Lib.hid hp
            rw [hp] at HP
            clear HB HN2 hp
            go_wp2_with fail
            refine (HP.out _).mono ?_
            rintro e w' ⟨rfl, rfl⟩
            go_wp2_with fail
            refine (HQ.out _).mono ?_
            rintro e w' ⟨rfl, rfl⟩
            go_wp2_with fail
            go_meet
            exact ⟨by rw [HHP.out, Bool.true_and], rfl⟩
          · have hpf : fst (is1 46) (rest s q) = false := by simpa using hp
            have HHP := Lib.hid hpf
            rw [hpf] at HP
            clear HB HN2 hp hpf
            go_wp2_with fail
            refine (HP.out _).mono ?_
            rintro e w' ⟨rfl, rfl⟩
            go_wp2_with fail
            go_meet
            exact ⟨by rw [HHP.out, Bool.false_and], rfl⟩
        case rest =>
          obtain ⟨rfl, rfl⟩ := hcut
          clear HP HQ
          go_upto_if 37 with fail
          go_cut [5] (fun v wx => v = .int .i64 ((q + b : Nat) : Int) ∧ w = wx)
          case first =>
            by_cases hpd : (fst (is1 46) (rest s q) && fst isD (rest s (q + 1))) = true
            · rw [Bool.and_eq_true] at hpd
              obtain ⟨h46, hdd⟩ := hpd
              have hq1 : q + 1 < s.size := by have := fst_len _ _ hdd; rw [rest_len] at this; omega
              have hbb := HB.out
              rw [if_pos h46, if_neg (by rw [run_yes isD _ hdd]; omega)] at hbb
              have HBB := Lib.hid hbb
              rw [h46, hdd, show (true && true) = true from rfl]
              clear HB hbb HN2 h46 hdd
              go_wp2_with fail
              go_loop [5] (fun u => ∃ i : Nat, i ≤ s.size ∧ u = .int .i64 i ∧ Hid (i + run isD (rest s i) = q + b)) (fun u => s.size - (intOf u).toNat)
              case atStart => exact ⟨q + 1, by omega, by go_num, Lib.hid (by rw [HBB.out]; omega)⟩
              case round =>
                obtain ⟨i, hi, rfl, hrel⟩ := hrel
                have HDI := Lib.hid (fun w => digit_any s i w)
                by_cases hdi : fst isD (rest s i) = true
                · have hlt : i < s.size := by have := fst_len _ _ hdi; rw [rest_len] at this; omega
                  have HR : Hid (i + 1 + run isD (rest s (i + 1)) = q + b) := Lib.hid (by rw [← hrel.out, run_yes isD _ hdi, rest_drop]; omega)
                  rw [hdi] at HDI
                  clear hrel hdi
                  go_wp2_with fail
                  refine (HDI.out _).mono ?_
                  rintro e w' ⟨rfl, rfl⟩
                  go_wp2_with fail
                  go_round
                  case rel => exact ⟨i + 1, by omega, by go_num, HR⟩
                  case measure => simp [intOf]; omega
                · have hdf : fst isD (rest s i) = false := by simpa using hdi
                  have HR : Hid (i = q + b) := Lib.hid (by rw [← hrel.out, run_no isD _ hdf]; rfl)
                  rw [hdf] at HDI
                  clear hrel hdi hdf
                  go_wp2_with fail
                  refine (HDI.out _).mono ?_
                  rintro e w' ⟨rfl, rfl⟩
                  go_wp2_with fail
                  go_meet
                  exact ⟨by rw [HR.out], rfl⟩
            · have hb0 : b = 0 := by
                rw [HB.out]
                by_cases h46 : fst (is1 46) (rest s q) = true
                · have hdf : fst isD (rest s (q + 1)) = false := by rw [h46, Bool.true_and] at hpd; simpa using hpd
                  rw [if_pos h46, run_no isD _ hdf]; rfl
                · rw [if_neg h46]
              have hpf : (fst (is1 46) (rest s q) && fst isD (rest s (q + 1))) = false := by simpa using hpd
              rw [hpf]
              subst hb0
              clear HB HN2 hpd hpf
              go_wp2_with fail
              go_meet
              exact ⟨rfl, rfl⟩
          case rest =>
            obtain ⟨rfl, rfl⟩ := hcut
            clear HB
            have hp : q + b ≤ s.size := by omega
            clear hfl hka
            generalize q + b = p at *
            have HX1 := Lib.hid (fun w => is_any s p 101 w)
            have HX2 := Lib.hid (fun w => is_any s p 69 w)
            have HE2 := Lib.hid (isE_two (rest s p))
            go_upto_region 14 with fail
            go_cut [52] (fun v wx => v = .bool (fst isE (rest s p)) ∧ w = wx)
            case first =>
              by_cases h1 : fst (is1 101) (rest s p) = true
              · have HV := Lib.hid (show fst isE (rest s p) = true by rw [HE2.out, h1]; rfl)
                rw [h1] at HX1
                clear HN2 HE2 h1
                go_wp2_with fail
                refine (HX1.out _).mono ?_
                rintro e w' ⟨rfl, rfl⟩
                go_wp2_with fail
                go_meet
                exact ⟨by rw [HV.out], rfl⟩
              · have h1f : fst (is1 101) (rest s p) = false := by simpa using h1
                have HV := Lib.hid (show fst isE (rest s p) = fst (is1 69) (rest s p) by rw [HE2.out, h1f]; rfl)
                rw [h1f] at HX1
                clear HN2 HE2 h1 h1f
                go_wp2_with fail
                refine (HX1.out _).mono ?_
                rintro e w' ⟨rfl, rfl⟩
                go_wp2_with fail
                refine (HX2.out _).mono ?_
                rintro e w' ⟨rfl, rfl⟩
                go_wp2_with fail
                go_meet
                exact ⟨by rw [HV.out], rfl⟩
            case rest =>
              obtain ⟨rfl, rfl⟩ := hcut
              clear HX1 HX2 HE2
              by_cases hE : fst isE (rest s p) = true
              · have hp1 : p < s.size := by have := fst_len _ _ hE; rw [rest_len] at this; omega
                have HEX : Hid (expLen (rest s p) = if run isD (rest s (p + 1 + signLen (rest s (p + 1)))) = 0 then 0 else 1 + signLen (rest s (p + 1)) + run isD (rest s (p + 1 + signLen (rest s (p + 1))))) := Lib.hid (by
                  unfold expLen
                  simp only [rest_drop]
                  rw [if_pos hE]
                  simp only [← Nat.add_assoc])
                have HSB := Lib.hid (show fst isS (rest s (p + 1)) = decide (signLen (rest s (p + 1)) = 1) by
                  unfold signLen
                  by_cases h : fst isS (rest s (p + 1)) = true
                  · rw [if_pos h, h]; rfl
                  · rw [if_neg h]; simpa using h)
                have hsl := signLen_le (rest s (p + 1))
                rw [rest_len] at hsl
                have HS2 := Lib.hid (isS_two (rest s (p + 1)))
                have HX1 : Hid (∀ w, Calls Tryz.prog 133 #[.string s, .int .i64 ((p : Int) + 1), .int .u8 43] w fun e w' => e = .returned (.bool (fst (is1 43) (rest s (p + 1)))) ∧ w = w') := Lib.hid (fun w => is_any s (p + 1) 43 w)
                have HX2 : Hid (∀ w, Calls Tryz.prog 133 #[.string s, .int .i64 ((p : Int) + 1), .int .u8 45] w fun e w' => e = .returned (.bool (fst (is1 45) (rest s (p + 1)))) ∧ w = w') := Lib.hid (fun w => is_any s (p + 1) 45 w)
                rw [hE]
                clear hE
                generalize signLen (rest s (p + 1)) = g at *
                have hg1 : g = 0 ∨ g = 1 := by omega
                go_upto_region 16 with fail
                go_cut [62] (fun v wx => v = .bool (decide (g = 1)) ∧ w = wx)
                case first =>
                  rw [HSB.out] at HS2
                  by_cases h1 : fst (is1 43) (rest s (p + 1)) = true
                  · have HV := Lib.hid (show decide (g = 1) = true by rw [HS2.out, h1]; rfl)
                    rw [h1] at HX1
                    clear HN2 HS2 h1 HSB HEX
                    go_wp2_with fail
                    refine (HX1.out _).mono ?_
                    rintro e w' ⟨rfl, rfl⟩
                    go_wp2_with fail
                    go_meet
                    exact ⟨by rw [HV.out], rfl⟩
                  · have h1f : fst (is1 43) (rest s (p + 1)) = false := by simpa using h1
                    have HV := Lib.hid (show decide (g = 1) = fst (is1 45) (rest s (p + 1)) by rw [HS2.out, h1f]; rfl)
                    rw [h1f] at HX1
                    clear HN2 HS2 h1 h1f HSB HEX
                    go_wp2_with fail
                    refine (HX1.out _).mono ?_
                    rintro e w' ⟨rfl, rfl⟩
                    go_wp2_with fail
                    refine (HX2.out _).mono ?_
                    rintro e w' ⟨rfl, rfl⟩
                    go_wp2_with fail
                    go_meet
                    exact ⟨by rw [HV.out], rfl⟩
                case rest =>
                  obtain ⟨rfl, rfl⟩ := hcut
                  clear HX1 HX2 HS2 HSB
                  go_upto_if 62 with fail
                  go_cut [6] (fun v wx => v = .int .i64 ((p + 1 + g : Nat) : Int) ∧ w = wx)
                  case first =>
                    clear HN2 HEX
                    rcases hg1 with rfl | rfl
                    · go_wp2_with fail
                      go_meet
                      exact ⟨by go_num, rfl⟩
                    · go_wp2_with fail
                      go_meet
                      exact ⟨by go_num, rfl⟩
                  case rest =>
                    obtain ⟨rfl, rfl⟩ := hcut
                    clear hg1
                    have hpg : p + 1 + g ≤ s.size := by omega
                    generalize hr : p + 1 + g = r at *
                    have HDR := Lib.hid (fun w => digit_any s r w)
                    by_cases hdr : fst isD (rest s r) = true
                    · have hex := HEX.out
                      rw [if_neg (by rw [run_yes isD _ hdr]; omega)] at hex
                      have hrl := run_le isD (rest s r)
                      rw [rest_len] at hrl
                      have HK : Hid (k + N = r + run isD (rest s r)) := Lib.hid (by rw [HN2.out, hex]; omega)
                      rw [hdr] at HDR
                      clear HN2 HEX hex hdr
                      go_wp2_with fail
                      refine (HDR.out _).mono ?_
                      rintro e w' ⟨rfl, rfl⟩
                      go_wp2_with fail
                      go_loop [6] (fun u => ∃ i : Nat, i ≤ s.size ∧ u = .int .i64 i ∧ Hid (i + run isD (rest s i) = k + N)) (fun u => s.size - (intOf u).toNat)
                      case atStart => exact ⟨r, hpg, rfl, Lib.hid HK.out.symm⟩
                      case round =>
                        obtain ⟨i, hi, rfl, hrel⟩ := hrel
                        have HDI := Lib.hid (fun w => digit_any s i w)
                        by_cases hdi : fst isD (rest s i) = true
                        · have hlt : i < s.size := by have := fst_len _ _ hdi; rw [rest_len] at this; omega
                          have HR : Hid (i + 1 + run isD (rest s (i + 1)) = k + N) := Lib.hid (by rw [← hrel.out, run_yes isD _ hdi, rest_drop]; omega)
                          rw [hdi] at HDI
                          clear hrel hdi
                          go_wp2_with fail
                          refine (HDI.out _).mono ?_
                          rintro e w' ⟨rfl, rfl⟩
                          go_wp2_with fail
                          go_round
                          case rel => exact ⟨i + 1, by omega, by go_num, HR⟩
                          case measure => simp [intOf]; omega
                        · have hdf : fst isD (rest s i) = false := by simpa using hdi
                          have HR : Hid (i = k + N) := Lib.hid (by rw [← hrel.out, run_no isD _ hdf]; rfl)
                          rw [hdf] at HDI
                          clear hrel hdi hdf
                          go_wp2_with fail
                          refine (HDI.out _).mono ?_
                          rintro e w' ⟨rfl, rfl⟩
                          go_wp2_with fail
                          go_ret
                          exact ⟨ret_i64 (by rw [HR.out]), rfl⟩
                    · have hdf : fst isD (rest s r) = false := by simpa using hdr
                      have hex := HEX.out
                      rw [if_pos (run_no isD _ hdf)] at hex
                      have HK : Hid (p = k + N) := Lib.hid (by rw [HN2.out, hex]; rfl)
                      rw [hdf] at HDR
                      clear HN2 HEX hex hdr hdf
                      go_wp2_with fail
                      refine (HDR.out _).mono ?_
                      rintro e w' ⟨rfl, rfl⟩
                      go_wp2_with fail
                      go_ret
                      exact ⟨ret_i64 (by rw [HK.out]), rfl⟩
              · have hEf : fst isE (rest s p) = false := by simpa using hE
                have HK : Hid (p = k + N) := Lib.hid (by rw [HN2.out]; unfold expLen; rw [if_neg hE]; rfl)
                rw [hEf]
                clear HN2 hE hEf
                go_wp2_with fail
                go_ret
                exact ⟨ret_i64 (by rw [HK.out]), rfl⟩
    · have hdf : fst isD (rest s (k + m)) = false := by simpa using hd
      have hN : N = 0 := by rw [HNN.out, HW.out hdf]; rfl
      rw [hdf] at HD
      clear HNN HW hd hdf
      subst hN
      go_wp2_with fail
      refine (HD.out _).mono ?_
      rintro e w' ⟨rfl, rfl⟩
      go_wp2_with fail
      go_ret
      exact ⟨rfl, rfl⟩
end Go.Proofs.YtmkjoonbjmieoaaGreatDoor
