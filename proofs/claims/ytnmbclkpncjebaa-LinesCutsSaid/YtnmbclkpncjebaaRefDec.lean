/-
  emendref02.Decode AT EVERY TEXT of at most 1000000 bytes, every place: the point (or -1) and the length of the piece that begins there; no memory that was there turns. Condition: the text's length.
-/
import Derived.Test.YtnmbclkpncjebaaRefA
import Derived.Test.YtnmbclkpncjebaaHit
import Derived.Deep.QuietTactic
import Derived.BigQuiet
import Derived.Deep.RegionWith
import Derived.Deep.DeepCutAuto
import Derived.IntWalk
import Derived.Deep.RegionLaw
import Derived.Deep.RegionHeld3
namespace Go.Proofs.Ytnmbclkpncjebaa
open Go.RowKit

theorem nth_rest (s : ByteArray) (k i : Nat) (h : k + i < s.size) : nth (rest s k) i = (s[k + i]'h).toNat := by
  unfold nth rest
  rw [List.getD_eq_getElem?_getD, List.getElem?_drop, Array.getElem?_toList, Array.getElem?_eq_getElem (show k + i < s.data.size from h)]
  rfl
theorem extract_take (s : ByteArray) (k m : Nat) : (s.extract k (k + m)).toList = (rest s k).take m := by
  rw [ByteArray.toList_eq, ByteArray.data_extract, Array.toList_extract]
  unfold rest
  rw [List.extract_eq_take_drop, Nat.add_sub_cancel_left]
theorem hit_eq (s : ByteArray) (k m n : Nat) (hn : n = num (rest s k) m) (hp : isPt (n : Int) = true) : (encL n == (s.extract k (k + m)).toList) = hitB (rest s k) m := by
  rw [extract_take]
  unfold hitB
  rw [← hn, hp, Bool.true_and]
theorem num_one (s : ByteArray) (k m : Nat) (hk : k < s.size) (h : m = 1) : s[k].toNat = num (rest s k) m := by
  subst h
  show _ = lead (nth (rest s k) 0) 1
  rw [nth_rest s k 0 hk]
  rfl
theorem lead3 (a m : Nat) (h : m = 3) : lead a m = a % 16 := by subst h; rfl
theorem lead4 (a m : Nat) (h : m = 4) : lead a m = a % 8 := by subst h; rfl
theorem lead2 (a m : Nat) (h1 : ¬ m = 1) (h3 : ¬ m = 3) (h4 : ¬ m = 4) : lead a m = a % 32 := by unfold lead; rw [if_neg h1, if_neg h3, if_neg h4]
theorem inner_step (s : ByteArray) (k m i n : Nat) (hi : 1 ≤ i) (h : k + i < s.size) (hn : n = numTo (rest s k) m (i - 1)) : 64 * n + s[k + i].toNat % 64 = numTo (rest s k) m (i + 1 - 1) := by
  obtain ⟨j, rfl⟩ : ∃ j, i = j + 1 := ⟨i - 1, by omega⟩
  rw [Nat.add_sub_cancel] at hn ⊢
  rw [hn, ← nth_rest s k (j + 1) h]
  rfl
theorem point_no (n : Int) (h : isPt n = false) (w : World) : Calls Try.prog 55 #[.int .i64 n] w fun e w' => e = .returned (.bool false) ∧ w' = w := by
  have := point_any n w
  rw [h] at this
  exact this.mono fun _ _ ⟨h1, h2⟩ => ⟨h1, h2.symm⟩
theorem point_yes (n : Int) (h : isPt n = true) (w : World) : Calls Try.prog 55 #[.int .i64 n] w fun e w' => e = .returned (.bool true) ∧ w' = w := by
  have := point_any n w
  rw [h] at this
  exact this.mono fun _ _ ⟨h1, h2⟩ => ⟨h1, h2.symm⟩
set_option maxRecDepth 100000 in
set_option maxHeartbeats 1000000 in
theorem refDec_in (s : ByteArray) (k : Nat) (hk : k < s.size) (hs : s.size ≤ 1000000) (w : World) :
    Calls Try.prog 49 #[.string s, .int .i64 (k : Int)] w fun e w' => e = .returned (.tuple #[.int .i64 (dec (rest s k)).1, .int .i64 (dec (rest s k)).2]) ∧ Below w.heap.size w w' := by
  have k0 : decide ((k : Int) < 0) = false := by simp
  have k1 : decide (s.size ≤ k) = false := by simp; omega
  go_enter Try.func49, Try.ntmps49
  go_wp2
  go_loopw [6] (fun v wr => ∃ m : Nat, 1 ≤ m ∧ m ≤ 5 ∧ v = .int .i64 m ∧ Hid (Below w.heap.size w wr) ∧ Hid (∀ j, 1 ≤ j → j < m → hitB (rest s k) j = false)) (fun v _ => 5 - (intOf v).toNat)
  case atStart => exact ⟨1, by omega, by omega, rfl, Lib.hid (Below.refl _ _), Lib.hid (fun j h1 h2 => by omega)⟩
  case round =>
    obtain ⟨m, hm1, hm5, rfl, hb, hno⟩ := hrel
    by_cases hend : 4 < m ∨ s.size < k + m
    · have HD : Hid (dec (rest s k) = (-1, 1)) := Lib.hid (no_hit _ (rest_ne s k hk) (fun j h1 h2 h3 => hno.out j h1 (by rw [rest_len] at h3; omega)))
      clear hno
      by_cases h4 : 4 < m
      · have d4 : decide ((m : Int) ≤ 4) = false := by simp; omega
        go_wp2
        go_ret2
        exact ⟨ret_pair (by rw [HD.out]) (by rw [HD.out]; rfl), hb.out⟩
      · have d4 : decide ((m : Int) ≤ 4) = true := by simp; omega
        have dl : decide ((m : Int) ≤ (s.size : Int) - (k : Int)) = false := by simp; omega
        go_wp2
        go_ret2
        exact ⟨ret_pair (by rw [HD.out]) (by rw [HD.out]; rfl), hb.out⟩
    · have hm4 : m ≤ 4 := by omega
      have hkm : k + m ≤ s.size := by omega
      clear hend
      have d4 : decide ((m : Int) ≤ 4) = true := by simp; omega
      have dl : decide ((m : Int) ≤ (s.size : Int) - (k : Int)) = true := by simp; omega
      have hx : (s[k].toNat : Int) ≤ 255 := by have := UInt8.toNat_lt s[k]; omega
      go_upto_if 36 with fail
      go_cut [8, 9] (fun v8 _ wx => ∃ n : Nat, v8 = .int .i64 (n : Int) ∧ n ≤ 67108863 ∧ Hid (n = num (rest s k) m) ∧ wx = wr)
      case first =>
        by_cases h1 : m = 1
        · have g1 : decide (1 < (m : Int)) = false := by simp; omega
          go_wp2
          go_meet
          exact ⟨s[k].toNat, rfl, by omega, Lib.hid (num_one s k m hk h1), rfl⟩
        · have g1 : decide (1 < (m : Int)) = true := by simp; omega
          have g1a : (1 : Int) < (m : Int) := by omega
          rw [g1]
          by_cases h3 : m = 3
          · have HL := Lib.hid (lead3 s[k].toNat m h3)
            have e3 : ((m : Int) == 3) = true := by simp only [beq_iff_eq]; omega
            have e4 : ((m : Int) == 4) = false := by simp only [beq_eq_false_iff_ne, ne_eq]; omega
            clear h1 h3
            go_wp2
            go_loop [8, 9] (fun v8 v9 => ∃ (i n : Nat), 1 ≤ i ∧ i ≤ m ∧ v9 = .int .i64 i ∧ v8 = .int .i64 n ∧ n ≤ 67108863 ∧ Hid (n = numTo (rest s k) m (i - 1))) (fun _ v9 => m - (intOf v9).toNat)
            case atStart => exact ⟨1, s[k].toNat % 16, by omega, by omega, rfl, rfl, by omega, Lib.hid (by show _ = lead _ _; rw [nth_rest s k 0 hk]; exact (HL.out).symm)⟩
            case round =>
              obtain ⟨i, n, hi1, him, rfl, rfl, hn, hnn⟩ := hrel
              by_cases hlt : i < m
              · have hki : k + i < s.size := by omega
                have hy : (s[k + i].toNat : Int) ≤ 255 := by have := UInt8.toNat_lt s[k + i]; omega
                go_wp2_with (go_at_call 54; refine (low_any _ (by omega) (by omega) _).mono ?_; rintro e w' ⟨rfl, rfl⟩)
                go_round
                case rel => exact ⟨i + 1, 64 * n + s[k + i].toNat % 64, by omega, by omega, by go_num, by go_num, by rw [inner_step s k m i n hi1 hki hnn.out]; exact (numTo_le _ _ _ (by omega)).1, Lib.hid (inner_step s k m i n hi1 hki hnn.out)⟩
                case measure => simp [intOf]; omega
              · obtain rfl : i = m := by omega
                go_wp2
                go_meet
                exact ⟨n, rfl, hn, hnn, rfl⟩
          · by_cases h4 : m = 4
            · have HL := Lib.hid (lead4 s[k].toNat m h4)
              have e3 : ((m : Int) == 3) = false := by simp only [beq_eq_false_iff_ne, ne_eq]; omega
              have e4 : ((m : Int) == 4) = true := by simp only [beq_iff_eq]; omega
              clear h1 h3 h4
              go_wp2
              go_loop [8, 9] (fun v8 v9 => ∃ (i n : Nat), 1 ≤ i ∧ i ≤ m ∧ v9 = .int .i64 i ∧ v8 = .int .i64 n ∧ n ≤ 67108863 ∧ Hid (n = numTo (rest s k) m (i - 1))) (fun _ v9 => m - (intOf v9).toNat)
              case atStart => exact ⟨1, s[k].toNat % 8, by omega, by omega, rfl, rfl, by omega, Lib.hid (by show _ = lead _ _; rw [nth_rest s k 0 hk]; exact (HL.out).symm)⟩
              case round =>
                obtain ⟨i, n, hi1, him, rfl, rfl, hn, hnn⟩ := hrel
                by_cases hlt : i < m
                · have hki : k + i < s.size := by omega
                  have hy : (s[k + i].toNat : Int) ≤ 255 := by have := UInt8.toNat_lt s[k + i]; omega
                  go_wp2_with (go_at_call 54; refine (low_any _ (by omega) (by omega) _).mono ?_; rintro e w' ⟨rfl, rfl⟩)
                  go_round
                  case rel => exact ⟨i + 1, 64 * n + s[k + i].toNat % 64, by omega, by omega, by go_num, by go_num, by rw [inner_step s k m i n hi1 hki hnn.out]; exact (numTo_le _ _ _ (by omega)).1, Lib.hid (inner_step s k m i n hi1 hki hnn.out)⟩
                  case measure => simp [intOf]; omega
                · obtain rfl : i = m := by omega
                  go_wp2
                  go_meet
                  exact ⟨n, rfl, hn, hnn, rfl⟩
            · have HL := Lib.hid (lead2 s[k].toNat m h1 h3 h4)
              have e3 : ((m : Int) == 3) = false := by simp only [beq_eq_false_iff_ne, ne_eq]; omega
              have e4 : ((m : Int) == 4) = false := by simp only [beq_eq_false_iff_ne, ne_eq]; omega
              clear h1 h3 h4
              go_wp2
              go_loop [8, 9] (fun v8 v9 => ∃ (i n : Nat), 1 ≤ i ∧ i ≤ m ∧ v9 = .int .i64 i ∧ v8 = .int .i64 n ∧ n ≤ 67108863 ∧ Hid (n = numTo (rest s k) m (i - 1))) (fun _ v9 => m - (intOf v9).toNat)
              case atStart => exact ⟨1, s[k].toNat % 32, by omega, by omega, rfl, rfl, by omega, Lib.hid (by show _ = lead _ _; rw [nth_rest s k 0 hk]; exact (HL.out).symm)⟩
              case round =>
                obtain ⟨i, n, hi1, him, rfl, rfl, hn, hnn⟩ := hrel
                by_cases hlt : i < m
                · have hki : k + i < s.size := by omega
                  have hy : (s[k + i].toNat : Int) ≤ 255 := by have := UInt8.toNat_lt s[k + i]; omega
                  go_wp2_with (go_at_call 54; refine (low_any _ (by omega) (by omega) _).mono ?_; rintro e w' ⟨rfl, rfl⟩)
                  go_round
                  case rel => exact ⟨i + 1, 64 * n + s[k + i].toNat % 64, by omega, by omega, by go_num, by go_num, by rw [inner_step s k m i n hi1 hki hnn.out]; exact (numTo_le _ _ _ (by omega)).1, Lib.hid (inner_step s k m i n hi1 hki hnn.out)⟩
                  case measure => simp [intOf]; omega
                · obtain rfl : i = m := by omega
                  go_wp2
                  go_meet
                  exact ⟨n, rfl, hn, hnn, rfl⟩
      case rest =>
        obtain ⟨n, rfl, hn, hnn, rfl⟩ := hcut
        clear hx
        go_upto_region 18 with fail
        go_cut [74] (fun v wx => v = .bool (hitB (rest s k) m) ∧ Hid (Below w.heap.size w wx))
        case first =>
          by_cases hp : isPt (n : Int) = true
          · have HP := Lib.hid hp
            have hle : n ≤ 1114111 := by unfold isPt at hp; rw [decide_eq_true_eq] at hp; omega
            have HLE := Lib.hid hle
            clear hp hle
            have s1 : (0 : Int) ≤ (k : Int) + (m : Int) := by omega
            have s2 : (k : Int) + (m : Int) ≤ (s.size : Int) := by omega
            have s3 : (k : Int) ≤ (k : Int) + (m : Int) := by omega
            have s5 : ((k : Int) + (m : Int)).toNat = k + m := by omega
            have s4 : IntKind.i64.wrap ((k : Int) + (m : Int)) = (k : Int) + (m : Int) := IntWalk.i64_in _ (by omega)
            have hcv1 := str_run n ((wc.alloc (.cells (cellsB n).toArray 5)).drew) wc.heap.size _ rfl (fun j v h => new_cells wc _ 5 j v h)
            have hcv2 := str_run n (wc.drew.alloc (.cells (cellsB n).toArray 5)) wc.heap.size _ rfl (fun j v h => new_cells wc _ 5 j v h)
            have hsl : ∀ W, (Instr.slice 9 (.string s) (some (.int .i64 (k : Int))) (some (.int .i64 ((k : Int) + (m : Int)))) none).run Try.prog W = .ok (.string (s.extract k (k + m))) W := fun W => by
              rw [run_slice_string W 9 s .i64 .i64 k ((k : Int) + m) Try.underlying9 (by omega) (by omega) (by omega), Int.toNat_natCast, show ((k : Int) + (m : Int)).toNat = k + m by omega]
            refine wp_region_noPanic ?_
            refine wp_region_held_drew (S := fun _ => True) (by kernel_rfl) trivial (fun hHeld => ?_)
            clear hHeld
            refine wpAnyH_take (i := 0) (oi := ⟨some 61, _, _, _, _, _⟩) (v := ?_) rfl (by kernel_rfl) (by kernel_rfl) (by kernel_rfl) (fun _ _ _ h => h) (Or.inl ⟨by rfl, ?_⟩) trivial ?_
            rotate_left
            · (intro W hSW; go_simp; first | done | with_reducible rfl)
            simp only [Act.put, List.setIfInBounds_toArray, List.set_cons_zero, List.set_cons_succ]
            refine wpAnyH_ready (rs := [1]) (by kernel_rfl) (by simp) ?_
            refine AllReadyH.cons (o := ⟨some 62, _, _, _, _, _⟩) rfl (fun K hK => ?_) AllReadyH.nil
            go_simp
            refine (point_yes _ HP.out _).mono ?_
            rintro e w' ⟨rfl, rfl⟩
            go_wp2_with fail
            refine hK.out _ _ trivial (fun hHeld => ?_)
            clear hK K hHeld
            try simp only [Act.put, List.setIfInBounds_toArray, List.set_cons_zero, List.set_cons_succ]
            refine wpAnyH_take (i := 2) (oi := ⟨some 63, _, _, _, _, _⟩) (v := ?_) rfl (by kernel_rfl) (by kernel_rfl) (by kernel_rfl) (fun _ _ _ h => h) (Or.inl ⟨by rfl, ?_⟩) trivial ?_
            rotate_left
            · (intro W hSW; go_simp; first | done | with_reducible rfl)
            simp only [Act.put, List.setIfInBounds_toArray, List.set_cons_zero, List.set_cons_succ]
            refine wpAnyH_take (i := 3) (oi := ⟨some 64, _, _, _, _, _⟩) (v := ?_) rfl (by kernel_rfl) (by kernel_rfl) (by kernel_rfl) (fun _ _ _ h => h) (Or.inl ⟨by rfl, ?_⟩) trivial ?_
            rotate_left
            · (intro W hSW; go_simp; first | done | with_reducible rfl)
            simp only [Act.put, List.setIfInBounds_toArray, List.set_cons_zero, List.set_cons_succ]
            refine wpAnyH_take (i := 6) (oi := ⟨some 67, _, _, _, _, _⟩) (v := ?_) rfl (by kernel_rfl) (by kernel_rfl) (by kernel_rfl) (fun _ _ _ h => h) (Or.inl ⟨by rfl, ?_⟩) trivial ?_
            rotate_left
            · (intro W hSW; go_simp; first | done | with_reducible rfl)
            simp only [Act.put, List.setIfInBounds_toArray, List.set_cons_zero, List.set_cons_succ]
            refine wpAnyH_take (i := 7) (oi := ⟨some 68, _, _, _, _, _⟩) (v := ?_) rfl (by kernel_rfl) (by kernel_rfl) (by kernel_rfl) (fun _ _ _ h => h) (Or.inl ⟨by rfl, ?_⟩) trivial ?_
            rotate_left
            · (intro W hSW; go_simp; first | done | with_reducible rfl)
            simp only [Act.put, List.setIfInBounds_toArray, List.set_cons_zero, List.set_cons_succ]
            refine wpAnyH_take (i := 8) (oi := ⟨some 69, _, _, _, _, _⟩) (v := ?_) rfl (by kernel_rfl) (by kernel_rfl) (by kernel_rfl) (fun _ _ _ h => h) (Or.inl ⟨by rfl, ?_⟩) trivial ?_
            rotate_left
            · (intro W hSW; go_simp; first | done | with_reducible rfl)
            simp only [Act.put, List.setIfInBounds_toArray, List.set_cons_zero, List.set_cons_succ]
            refine wpAnyH_take (i := 9) (oi := ⟨some 70, _, _, _, _, _⟩) (v := ?_) rfl (by kernel_rfl) (by kernel_rfl) (by kernel_rfl) (fun _ _ _ h => h) (Or.inl ⟨by rfl, ?_⟩) trivial ?_
            rotate_left
            · (intro W hSW; go_simp; first | done | with_reducible rfl)
            simp only [Act.put, List.setIfInBounds_toArray, List.set_cons_zero, List.set_cons_succ]
            refine wpAnyH_take (i := 10) (oi := ⟨some 71, _, _, _, _, _⟩) (v := ?_) rfl (by kernel_rfl) (by kernel_rfl) (by kernel_rfl) (fun _ _ _ h => h) (Or.inl ⟨by rfl, ?_⟩) trivial ?_
            rotate_left
            · (intro W hSW; go_simp; first | done | with_reducible rfl)
            simp only [Act.put, List.setIfInBounds_toArray, List.set_cons_zero, List.set_cons_succ]
            refine wpAnyH_take (i := 11) (oi := ⟨some 72, _, _, _, _, _⟩) (v := ?_) rfl (by kernel_rfl) (by kernel_rfl) (by kernel_rfl) (fun _ _ _ h => h) (Or.inl ⟨by rfl, ?_⟩) trivial ?_
            rotate_left
            · (intro W hSW; go_simp; first | done | with_reducible rfl)
            simp only [Act.put, List.setIfInBounds_toArray, List.set_cons_zero, List.set_cons_succ]
            refine wpAnyH_ready (rs := [4]) (by kernel_rfl) (by simp) ?_
            refine AllReadyH.cons (o := ⟨some 65, _, _, _, _, _⟩) rfl (fun K hK => ?_) AllReadyH.nil
            go_simp
            refine (bytes_any n HLE.out _).mono ?_
            rintro e w' ⟨rfl, rfl⟩
            go_wp2_with fail
            refine hK.out _ _ trivial (fun hHeld => ?_)
            clear hK K hHeld
            try simp only [Act.put, List.setIfInBounds_toArray, List.set_cons_zero, List.set_cons_succ]
            refine wpAnyH_ready (rs := [5]) (by kernel_rfl) (by simp) ?_
            refine AllReadyH.cons (o := ⟨some 66, _, _, _, _, _⟩) rfl (fun K hK => ?_) AllReadyH.nil
            go_simp
            refine hK.out _ _ trivial (fun hHeld => ?_)
            clear hK K hHeld
            try simp only [Act.put, List.setIfInBounds_toArray, List.set_cons_zero, List.set_cons_succ]
            refine wpAnyH_take (i := 12) (oi := ⟨some 73, _, _, _, _, _⟩) (v := ?_) rfl (by kernel_rfl) (by kernel_rfl) (by kernel_rfl) (fun _ _ _ h => h) (Or.inl ⟨by rfl, ?_⟩) trivial ?_
            rotate_left
            · (intro W hSW; go_simp; first | done | with_reducible rfl)
            simp only [Act.put, List.setIfInBounds_toArray, List.set_cons_zero, List.set_cons_succ]
            refine wpAnyH_take (i := 13) (oi := ⟨some 74, _, _, _, _, _⟩) (v := ?_) rfl (by kernel_rfl) (by kernel_rfl) (by kernel_rfl) (fun _ _ _ h => h) (Or.inl ⟨by rfl, ?_⟩) trivial ?_
            rotate_left
            · (intro W hSW; go_simp; first | done | with_reducible rfl)
            simp only [Act.put, List.setIfInBounds_toArray, List.set_cons_zero, List.set_cons_succ]
            refine wpAnyH_done (by kernel_rfl) ?_ _
            refine NoPanic.normal ?_
            go_wp2
            go_meet
            exact ⟨congrArg Value.bool (hit_eq s k m n hnn.out HP.out), Lib.hid ((hb.out.alloc hb.out.size _).drew)⟩
          · have hpf : isPt (n : Int) = false := by simpa using hp
            have HP := Lib.hid hpf
            have HH : Hid (hitB (rest s k) m = false) := Lib.hid (by unfold hitB; rw [← hnn.out, hpf]; rfl)
            clear hp hpf
            go_quiet ((go_at_call 55; exact Calls.quiet_of_same (point_no _ HP.out _)))
            go_wp2
            go_meet
            exact ⟨by rw [HH.out], Lib.hid ⟨hb.out.os, hb.out.tape, hb.out.output, hb.out.size, hb.out.block⟩⟩
        case rest =>
          obtain ⟨rfl, hb1⟩ := hcut
          by_cases hh : hitB (rest s k) m = true
          · have hd := hit_dec (rest s k) m (by rw [rest_len]; omega) hh
            rw [hh]
            have HD := Lib.hid hd
            clear hd hh
            go_wp2
            go_ret2
            exact ⟨ret_pair (by rw [HD.out, hnn.out]) (by rw [HD.out]), hb1.out⟩
          · have hh2 : hitB (rest s k) m = false := by simpa using hh
            rw [hh2]
            have HN : Hid (∀ j, 1 ≤ j → j < m + 1 → hitB (rest s k) j = false) := Lib.hid (fun j h1 h2 => by
              by_cases e : j = m
              · rw [e]; exact hh2
              · exact hno.out j h1 (by omega))
            clear hh hh2 hno
            go_wp2
            go_roundw
            case rel => exact ⟨m + 1, by omega, by omega, by go_num, hb1, HN⟩
            case measure => simp [intOf]; omega

end Go.Proofs.Ytnmbclkpncjebaa
