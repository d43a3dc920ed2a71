/- strconv's shouldRoundUp and RoundedInteger AT EVERY DECIMAL that is not nought. Conditions: the decimal lies in a block; nothing turns. -/
import Derived.Test.YtmlclgkhnekmnaaGreatDoorDShift
namespace Go.Proofs.YtmlclgkhnekmnaaGreatDoor
open Go.RowKit
set_option maxRecDepth 100000 in
set_option maxHeartbeats 2000000 in
theorem should_any (g : Nat) (x : Dc) (hx : x.Ok) (i : Int) (hi : -60000000 ≤ i ∧ i ≤ 60000000) (w : World) (h : DIn w g x) :
 Calls Tryz.prog 247 #[.pointer (some ⟨g, 0, none⟩), .int .i64 i] w fun e w' => e = .returned (.bool (sru x i)) ∧ ∃ n, w' = w.drewN n := by
 obtain ⟨D, nd, dp, tr⟩ := x
 obtain ⟨f, hR, hf⟩ := h
 have n1 := hx.len.n1
 have n8 := hx.n8
 simp only at n1 n8 hR hf
 have c0 := hR.hnd
 have c3 := hR.htr
 obtain ⟨R, hRR⟩ : ∃ R, sru ⟨D, nd, dp, tr⟩ i = R := ⟨_, rfl⟩
 rw [hRR]
 unfold sru at hRR
 simp only at hRR
 have HI := Lib.hid hR
 clear hx
 by_cases h0 : i < 0
 · rw [if_pos (.inl h0)] at hRR
   have HR := Lib.hid hRR
   have q0 : decide (i < 0) = true := decide_eq_true h0
   clear hRR hR hf
   go_enter Tryz.func247, Tryz.ntmps247
   go_wp2_with fail
   try rw [Exit.noGoto_ret]
   go_ret
   exact ⟨ret_bool HR.out, 0, rfl⟩
 · obtain ⟨j, rfl⟩ : ∃ j : Nat, i = (j : Int) := ⟨i.toNat, by omega⟩
   have q0 : decide ((j : Int) < 0) = false := decide_eq_false h0
   by_cases h1 : nd ≤ j
   · rw [if_pos (.inr (by omega))] at hRR
     have HR := Lib.hid hRR
     clear hRR hR hf
     go_enter Tryz.func247, Tryz.ntmps247
     go_wp2_with fail
     try rw [Exit.noGoto_ret]
     go_ret
     exact ⟨ret_bool HR.out, 0, rfl⟩
   · rw [if_neg (by omega), Int.toNat_natCast] at hRR
     have cb := hR.byte j (by omega)
     rw [hf j (by omega)] at cb
     have ld := dig_lt D nd j
     obtain ⟨d, hd⟩ : ∃ d, dig D nd j = d := ⟨_, rfl⟩
     rw [hd] at cb ld hRR
     obtain ⟨c, hc⟩ : ∃ c, 48 + d = c := ⟨_, rfl⟩
     rw [hc] at cb
     have h1n : ¬ nd ≤ j := h1
     have j8 : (j : Int) < 800 := by omega
     have j8n : j < 800 := by omega
     by_cases h5 : d = 5 ∧ (j : Int) + 1 = nd
     · obtain ⟨h5, h6⟩ := h5
       rw [if_pos ⟨h5, h6⟩] at hRR
       obtain rfl : nd = j + 1 := by omega
       subst h5
       subst hc
       cases tr with
       | true =>
        rw [if_pos rfl] at hRR
        have HR := Lib.hid hRR
        clear hRR hR hf h6
        go_enter Tryz.func247, Tryz.ntmps247
        go_wp2_with fail
        try rw [Exit.noGoto_ret]
        go_ret
        exact ⟨ret_bool HR.out, 0, rfl⟩
       | false =>
        rw [if_neg (by simp)] at hRR
        cases j with
        | zero =>
         rw [decide_eq_false (fun h => absurd h.1 (by decide))] at hRR
         have HR := Lib.hid hRR
         clear hRR hR hf h6
         go_enter Tryz.func247, Tryz.ntmps247
         go_wp2_with fail
         try rw [Exit.noGoto_ret]
         go_ret
         exact ⟨ret_bool HR.out, 0, rfl⟩
        | succ m =>
         have cb2 := hR.byte m (by omega)
         rw [hf m (by omega)] at cb2
         rw [Nat.add_sub_cancel] at hRR
         have ld2 := dig_lt D (m + 1 + 1) m
         obtain ⟨d, hd2⟩ : ∃ d, dig D (m + 1 + 1) m = d := ⟨_, rfl⟩
         rw [hd2] at cb2 ld2 hRR
         obtain ⟨c, hc⟩ : ∃ c, 48 + d = c := ⟨_, rfl⟩
         rw [hc] at cb2
         have E1 : IntKind.u8.wrap ((c : Int) - 48) = (d : Int) := by rw [IntKind.wrap_u8]; omega
         have HR : Hid (((d : Int) % 2 != 0) = R) := Lib.hid (by
          rw [← hRR, Bool.eq_iff_iff, bne_iff_ne, decide_eq_true_eq]
          omega)
         have m8 : (m : Int) < 800 := by omega
         have m8n : m < 800 := by omega
         clear hRR hR hf h6 hc hd2 hd
         go_enter Tryz.func247, Tryz.ntmps247
         go_wp2_with fail
         try rw [Exit.noGoto_ret]
         go_ret
         exact ⟨ret_bool HR.out, 0, rfl⟩
     · rw [if_neg h5] at hRR
       have HR := Lib.hid hRR
       have q5 : ((c : Int) == 53 && ((j : Int) + 1 == (nd : Int))) = false := by
        by_cases e : d = 5
        · have : ¬ ((j : Int) + 1 = nd) := fun x => h5 ⟨e, x⟩
          simp [this]
        · have : ¬ ((c : Int) = 53) := by omega
          simp [this]
       by_cases e : d = 5
       · have q6 : ((j : Int) + 1 == (nd : Int)) = false := by
          have : ¬ ((j : Int) + 1 = nd) := fun x => h5 ⟨e, x⟩
          simp [this]
         subst e
         subst hc
         clear hRR hR hf h5 q5
         go_enter Tryz.func247, Tryz.ntmps247
         go_wp2_with fail
         try rw [Exit.noGoto_ret]
         go_ret
         exact ⟨ret_bool (by rw [← HR.out]; rfl), 0, rfl⟩
       · have q6 : ((c : Int) == 53) = false := by simp only [beq_eq_false_iff_ne, ne_eq]; omega
         have HR2 : Hid (decide ((53 : Int) ≤ (c : Int)) = R) := Lib.hid (by rw [← hRR]; apply decide_eq_decide.2; omega)
         clear hRR hR hf h5 q5 hc hd HR
         go_enter Tryz.func247, Tryz.ntmps247
         go_wp2_with fail
         try rw [Exit.noGoto_ret]
         go_ret
         exact ⟨ret_bool HR2.out, 0, rfl⟩
theorem rint2_zero (x : Dc) (T : Nat) : rint2 (rint1 x T) 0 = rint1 x T := by
 unfold rint2
 rw [Nat.pow_zero, Nat.mul_one]
 exact Nat.mod_eq_of_lt (Nat.mod_lt _ (by decide))
theorem DIn.drewN {W : World} {g : Nat} {x : Dc} (h : DIn W g x) (n : Nat) : DIn (W.drewN n) g x := by
 obtain ⟨f, a, b⟩ := h
 exact ⟨f, a.drewN n, b⟩
set_option maxRecDepth 100000 in
set_option maxHeartbeats 2000000 in
theorem rounded_any (g : Nat) (x : Dc) (hx : x.Ok) (hdp : -50000000 ≤ x.dp ∧ x.dp ≤ 50000000) (w : World) (h : DIn w g x) :
 Calls Tryz.prog 238 #[.pointer (some ⟨g, 0, none⟩)] w fun e w' => e = .returned (.int .u64 (rint x : Nat)) ∧ ∃ n, w' = w.drewN n := by
 have HS := Lib.hid (fun n : Nat => should_any g x hx x.dp (by omega) (w.drewN n) (h.drewN n))
 obtain ⟨R, hR⟩ : ∃ R, rint x = R := ⟨_, rfl⟩
 rw [hR]
 obtain ⟨D, nd, dp, tr⟩ := x
 obtain ⟨f, hI, hf⟩ := h
 have n1 := hx.len.n1
 have n8 := hx.n8
 simp only at n1 n8 hI hf hdp HS
 have c0 := hI.hnd
 have c1 := hI.hdp
 have HI := Lib.hid hI
 have HF := Lib.hid hf
 unfold rint at hR
 simp only at hR
 have HLn := Lib.hid hx.len
 simp only at HLn
 clear hx hI hf
 by_cases h20 : 20 < dp
 · rw [if_pos h20] at hR
   have HR := Lib.hid hR
   clear hR
   go_enter Tryz.func238, Tryz.ntmps238
   go_wp2_with fail
   try rw [Exit.noGoto_ret]
   go_ret
   exact ⟨by rw [← HR.out]; rfl, 0, rfl⟩
 · rw [if_neg h20] at hR
   obtain ⟨T, hT⟩ : ∃ T, rtop ⟨D, nd, dp, tr⟩ = T := ⟨_, rfl⟩
   rw [hT] at hR
   have hT2 : T = min dp.toNat nd := hT.symm
   have HR := Lib.hid hR
   have q20 : decide ((20 : Int) < dp) = false := decide_eq_false h20
   clear hR hT
   go_enter Tryz.func238, Tryz.ntmps238
   go_wp2_with fail
   go_loopg [3, 4] T (fun gk v u wr => w = wr ∧ ∃ (i : Nat) (n : Nat), i ≤ T ∧ T - i = gk ∧ v = .int .i64 (i : Int) ∧ u = .int .u64 (n : Int) ∧ Hid (n = rint1 ⟨D, nd, dp, tr⟩ i))
   case atStart => exact ⟨rfl, 0, 0, by omega, rfl, rfl, rfl, Lib.hid (by unfold rint1; rw [Nat.sub_zero, Nat.div_eq_of_lt HLn.out.hi])⟩
   case round =>
    obtain ⟨rfl, i, n, hi, hgk, rfl, rfl, hn⟩ := hrel
    by_cases hiT : i = T
    · have HN : Hid (n = rint1 ⟨D, nd, dp, tr⟩ T) := Lib.hid (by rw [← hiT]; exact hn.out)
      have hor : decide ((i : Int) < dp) = false ∨ (decide ((i : Int) < dp) = true ∧ decide ((i : Int) < (nd : Int)) = false ∧ ¬ i < nd) := by
       rw [decide_eq_false_iff_not, decide_eq_true_eq, decide_eq_false_iff_not]
       omega
      have hTd : dp ≤ (T : Int) ∨ (T : Int) ≤ dp := by omega
      have HT : Hid (i = T ∧ i ≤ nd ∧ (i : Int) ≤ (dp.toNat : Int)) := Lib.hid (by omega)
      clear hgk hn hiT hi
      rcases hor with hor | ⟨hor, hor2, hor3⟩
      all_goals
       clear hTd
       go_wp2_with fail
       clear hor
       go_loopg [3, 4] (dp.toNat - i) (fun gk v u wr => w = wr ∧ ∃ (j n : Nat), i ≤ j ∧ (j : Int) ≤ (dp.toNat : Int) ∧ dp.toNat - j = gk ∧ v = .int .i64 (j : Int) ∧ u = .int .u64 (n : Int) ∧ Hid (n = rint2 (rint1 ⟨D, nd, dp, tr⟩ T) (j - i)))
       case atStart => exact ⟨rfl, i, n, Nat.le_refl _, HT.out.2.2, rfl, rfl, rfl, Lib.hid (by rw [Nat.sub_self, HN.out, rint2_zero])⟩
       case round =>
        clear HN
        obtain ⟨rfl, j, n, hij, hj, hgk, rfl, rfl, hn⟩ := hrel
        by_cases hjd : (j : Int) < dp
        · have hnx := rint2_next (rint1 ⟨D, nd, dp, tr⟩ T) (j - i)
          rw [← hn.out] at hnx
          obtain ⟨n', hn'⟩ : ∃ n', n * 10 % 18446744073709551616 = n' := ⟨_, rfl⟩
          rw [hn'] at hnx
          have E1 : IntKind.u64.wrap ((n : Int) * 10) = (n' : Int) := by rw [IntKind.wrap_u64]; omega
          have HNX := Lib.hid hnx
          have HJ : Hid (j < dp.toNat) := Lib.hid (by omega)
          clear hnx hn'
          go_wp2_with fail
          go_roundg (dp.toNat - (j + 1))
          case measure => have := HJ.out; omega
          case rel => exact ⟨rfl, j + 1, n', by omega, by have := HJ.out; omega, rfl, by go_num, rfl, Lib.hid (by rw [HNX.out]; congr 1; omega)⟩
        · have q2 : decide ((j : Int) < dp) = false := decide_eq_false hjd
          have HJ : Hid (j - i = dp.toNat - T) := Lib.hid (by have := HT.out; omega)
          clear hgk
          cases hb : sru ⟨D, nd, dp, tr⟩ dp with
          | true =>
           rw [hb] at HS HR
           have HV : Hid ((n + 1) % 18446744073709551616 = R) := Lib.hid (by rw [← HR.out, hn.out, HJ.out]; rfl)
           have E1 : IntKind.u64.wrap ((n : Int) + 1) = (R : Int) := by rw [← HV.out, IntKind.wrap_u64]; omega
           clear hb
           go_wp2_with fail
           refine (HS.out 0).mono ?_
           rintro e w' ⟨rfl, m, rfl⟩
           go_wp2_with fail
           try rw [Exit.noGoto_ret]
           go_ret
           exact ⟨rfl, m, rfl⟩
          | false =>
           rw [hb] at HS HR
           have HV : Hid (n = R) := Lib.hid (by
            rw [← HR.out, hn.out, HJ.out]
            simp only [Bool.false_eq_true, if_false, Nat.add_zero]
            unfold rint2
            rw [Nat.mod_mod])
           clear hb
           go_wp2_with fail
           refine (HS.out 0).mono ?_
           rintro e w' ⟨rfl, m, rfl⟩
           go_wp2_with fail
           try rw [Exit.noGoto_ret]
           go_ret
           exact ⟨by have e := HV.out; subst e; rfl, m, rfl⟩
    · have hin : i < nd := by omega
      have hidp : (i : Int) < dp := by omega
      have cb := HI.out.byte i (by omega)
      rw [HF.out i hin] at cb
      have ld := dig_lt D nd i
      obtain ⟨d, hd⟩ : ∃ d, dig D nd i = d := ⟨_, rfl⟩
      rw [hd] at cb ld
      have hnx := rint1_next ⟨D, nd, dp, tr⟩ i hin
      simp only at hnx
      rw [hd, ← hn.out] at hnx
      obtain ⟨c, hc⟩ : ∃ c, 48 + d = c := ⟨_, rfl⟩
      rw [hc] at cb
      obtain ⟨n', hn'⟩ : ∃ n', (n * 10 % 18446744073709551616 + d) % 18446744073709551616 = n' := ⟨_, rfl⟩
      rw [hn'] at hnx
      have E1 : (c : Int) - 48 = (d : Int) := by omega
      have E3 : IntKind.u64.wrap (IntKind.u64.wrap ((n : Int) * 10) + (d : Int)) = (n' : Int) := by
       rw [IntKind.wrap_u64 (_ * 10), IntKind.wrap_u64]; omega
      have HNX := Lib.hid hnx
      have HIT : Hid (i < T) := Lib.hid (by omega)
      clear hnx hn' hd hiT
      go_wp2_with fail
      go_roundg (T - (i + 1))
      case measure => have := HIT.out; omega
      case rel => exact ⟨rfl, i + 1, n', by have := HIT.out; omega, rfl, by go_num, rfl, Lib.hid HNX.out⟩
end Go.Proofs.YtmlclgkhnekmnaaGreatDoor
