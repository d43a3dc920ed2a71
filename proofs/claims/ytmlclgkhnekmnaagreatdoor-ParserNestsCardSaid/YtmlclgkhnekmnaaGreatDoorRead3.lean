/- The walk of strconv's readFloat AT EVERY FLOAT LITERAL of at most 60 bytes: mantissa, exponent, whether digits were cut off; it reads the whole text; nothing in memory turns. -/
import Derived.Test.YtmlclgkhnekmnaaGreatDoorFltU
import Derived.Deep.RegionWith
import Derived.Deep.DeepCutAuto
import Derived.BigFrame
import Derived.BigRegion
import Derived.BigQuiet
namespace Go.Proofs.YtmlclgkhnekmnaaGreatDoor
open Go.RowKit
set_option maxRecDepth 100000 in
set_option maxHeartbeats 4000000 in
theorem readFloat_exp (s : ByteArray) (hs : s.size ≤ 60) (p q : Nat) (hq : floatQ s.data.toList = q) (F : FForm s.data.toList p q) (hn : q < s.size) (f : Nat) (hfx : floatX s.data.toList = f) (E : EForm s.data.toList q f) (w : World) : Calls Tryz.prog 211 #[.string s] w fun e w' => e = .returned (.tuple #[.int .u64 (rfM s.data.toList), .int .i64 (rfE s.data.toList), .bool false, .bool (rfT s.data.toList), .bool false, .int .i64 (s.size : Int), .bool true]) ∧ w = w' := by
 have hsz : s.data.toList.length = s.size := rfl
 obtain ⟨p1, pq, ql, hdot, hdig⟩ := id F
 rw [hsz] at ql
 have N := fun j (h : j < s.size) => nth_at2 s j h
 have h0 : 0 < s.size := by omega
 have h1 : 1 < s.size := by omega
 have d0 : 48 ≤ s[0].toNat ∧ s[0].toNat ≤ 57 := by rw [← N 0 h0]; exact hdig 0 (by omega) (by omega)
 have d1 : s[1].toNat = 46 ∨ (48 ≤ s[1].toNat ∧ s[1].toNat ≤ 57) := by
  rw [← N 1 h1]
  by_cases g : 1 = p
  · rw [g]; exact .inl hdot
  · exact .inr (hdig 1 (by omega) g)
 obtain ⟨x0, hx0⟩ : ∃ x, s[0].toNat = x := ⟨_, rfl⟩
 obtain ⟨x1, hx1⟩ : ∃ x, s[1].toNat = x := ⟨_, rfl⟩
 rw [hx0] at d0
 rw [hx1] at d1
 have q1 : (((x0 : Nat) : Int) == 43) = false := by simp only [beq_eq_false_iff_ne, ne_eq]; omega
 have q2 : (((x0 : Nat) : Int) == 45) = false := by simp only [beq_eq_false_iff_ne, ne_eq]; omega
 have q3 : decide ((2 : Int) < (s.size : Int)) = true := by rw [decide_eq_true_eq]; omega
 have q4 := nox x1 d1
 have qe : decide (s = ByteArray.empty) = false := by
  rw [decide_eq_false_iff_not]
  intro h
  rw [h] at h0
  exact absurd h0 (by decide)
 have HL := Lib.hid (fun c w => Tryz.internal_strconv_lower c w)
 have HF := Lib.hid F
 have HN := Lib.hid N
 have HQ := Lib.hid hq
 have HD := Lib.hid hdig
 have HDOT := Lib.hid hdot
 have HE := Lib.hid E
 have HFX := Lib.hid hfx
 clear E hfx
 clear F N hdig hdot hq
 go_enter Tryz.func211, Tryz.ntmps211
 go_wp2_with fail
 go_step3
 by_cases g0 : x0 = 48
 case' pos =>
  have q5 : (((x0 : Nat) : Int) == 48) = true := by simp only [beq_iff_eq]; omega
  clear g0 d0 d1
  go_wp2_with fail
  refine (HL.out _ _).mono ?_
  rintro e w' ⟨rfl, rfl⟩
  go_wp2_with fail
 case' neg =>
  have q5 : (((x0 : Nat) : Int) == 48) = false := by simp only [beq_eq_false_iff_ne, ne_eq]; omega
  clear g0 d0 d1
  go_wp2_with fail
 all_goals
  clear q1 q2 q3 q4 q5 qe hx0 hx1
  go_step3
  go_wp2_with fail
  go_loop [2, 5, 7, 9, 13, 14, 15, 16, 17] (fun a2 a5 a7 a9 a13 a14 a15 a16 a17 => ∃ (j : Nat) (m : Int) (nd nm : Nat) (dp : Int) (dot sd tr : Bool), j ≤ q ∧ a2 = .int .u64 m ∧ a5 = .bool tr ∧ a7 = .int .i64 j ∧ a9 = .bool false ∧ a13 = .bool dot ∧ a14 = .bool sd ∧ a15 = .int .i64 nd ∧ a16 = .int .i64 nm ∧ a17 = .int .i64 dp ∧ Hid (rfAt s.data.toList j = ⟨m, nd, nm, dp, dot, sd, tr⟩)) (fun _ _ a7 _ _ _ _ _ _ => s.size + 1 - (intOf a7).toNat)
  case atStart => exact ⟨0, 0, 0, 0, 0, false, false, false, by omega, rfl, rfl, rfl, rfl, rfl, rfl, rfl, rfl, rfl, Lib.hid rfl⟩
  case round =>
   obtain ⟨j, m, nd, nm, dp, dot, sd, tr, hj, rfl, rfl, rfl, rfl, rfl, rfl, rfl, rfl, rfl, hrf⟩ := hrel
   have hb := rf_bounds s.data.toList j
   rw [hrf.out] at hb
   obtain ⟨b1, b2, b3, b4, b5⟩ := hb
   simp only at b1 b2 b3 b4 b5
   have hdt := rf_dot HF.out j hj
   rw [hrf.out] at hdt
   simp only at hdt
   by_cases hjq : j < q
   · have hjs : j < s.size := by omega
     have hnt := HN.out j hjs
     obtain ⟨c, hc⟩ : ∃ c, s[j].toNat = c := ⟨_, rfl⟩
     rw [hc] at hnt
     have hst : rfAt s.data.toList (j + 1) = rfStep ⟨m, nd, nm, dp, dot, sd, tr⟩ c := by rw [rfAt, hrf.out, hnt]
     clear hrf
     by_cases hjp : j = p
     · have hc46 : c = 46 := by rw [← hnt, hjp]; exact HDOT.out
       subst hc46
       have hd : dot = false := by rw [hdt]; exact decide_eq_false (by omega)
       subst hd
       unfold rfStep at hst
       rw [if_pos rfl] at hst
       have HS := Lib.hid hst
       clear hst hnt hdt hjp
       go_wp2_with fail
       go_round
       case rel => exact ⟨j + 1, m, nd, nm, nd, true, sd, tr, by omega, rfl, rfl, by go_num, rfl, rfl, rfl, rfl, rfl, rfl, HS⟩
       case measure => simp [intOf]; omega
     · have hcd := HD.out j (by omega) hjp
       rw [hnt] at hcd
       obtain ⟨c1, c2⟩ := hcd
       have e1 : (((c : Nat) : Int) == 95) = false := by simp only [beq_eq_false_iff_ne, ne_eq]; omega
       have e2 : (((c : Nat) : Int) == 46) = false := by simp only [beq_eq_false_iff_ne, ne_eq]; omega
       have e3 : decide ((48 : Int) ≤ ((c : Nat) : Int)) = true := by rw [decide_eq_true_eq]; omega
       have e4 : decide (((c : Nat) : Int) ≤ 57) = true := by rw [decide_eq_true_eq]; omega
       have c46 : c ≠ 46 := by omega
       unfold rfStep at hst
       rw [if_neg c46] at hst
       clear hdt hjp hnt c46
       by_cases g48 : c = 48
       · by_cases gnd : nd = 0
         · rw [if_pos ⟨g48, gnd⟩] at hst
           have HS := Lib.hid hst
           have e5 : (((c : Nat) : Int) == 48) = true := by simp only [beq_iff_eq]; omega
           have e6 : (((nd : Nat) : Int) == 0) = true := by simp only [beq_iff_eq]; omega
           clear hst g48 gnd
           go_wp2_with fail
           go_round
           case rel => exact ⟨j + 1, m, nd, nm, dp - 1, dot, true, tr, by omega, rfl, rfl, by go_num, rfl, rfl, rfl, rfl, rfl, by go_num, HS⟩
           case measure => simp [intOf]; omega
         · rw [if_neg (fun h => gnd h.2)] at hst
           have e5 : (((c : Nat) : Int) == 48) = true := by simp only [beq_iff_eq]; omega
           have e6 : (((nd : Nat) : Int) == 0) = false := by simp only [beq_eq_false_iff_ne, ne_eq]; omega
           have e8 : (((c : Nat) : Int) != 48) = false := by simp only [bne_eq_false_iff_eq]; omega
           by_cases gnm : nm < 19
           · rw [if_pos gnm] at hst
             have HS := Lib.hid hst
             have e7 : decide (((nm : Nat) : Int) < 19) = true := by rw [decide_eq_true_eq]; omega
             clear hst g48 gnd gnm e8
             go_wp2_with fail
             go_round
             case rel => exact ⟨j + 1, _, nd + 1, nm + 1, dp, dot, true, tr, by omega, (by first | rfl | go_num), rfl, by go_num, rfl, rfl, rfl, by go_num, by go_num, rfl, HS⟩
             case measure => simp [intOf]; omega
           · rw [if_neg gnm, decide_eq_false (fun h => h g48), Bool.or_false] at hst
             have HS := Lib.hid hst
             have e7 : decide (((nm : Nat) : Int) < 19) = false := by rw [decide_eq_false_iff_not]; omega
             clear hst g48 gnd gnm
             go_wp2_with fail
             go_round
             case rel => exact ⟨j + 1, m, nd + 1, nm, dp, dot, true, tr, by omega, rfl, rfl, by go_num, rfl, rfl, rfl, by go_num, rfl, rfl, HS⟩
             case measure => simp [intOf]; omega
       · rw [if_neg (fun h => g48 h.1)] at hst
         have e5 : (((c : Nat) : Int) == 48) = false := by simp only [beq_eq_false_iff_ne, ne_eq]; omega
         have e8 : (((c : Nat) : Int) != 48) = true := by simp only [bne_iff_ne, ne_eq]; omega
         by_cases gnm : nm < 19
         · rw [if_pos gnm] at hst
           have HS := Lib.hid hst
           have e7 : decide (((nm : Nat) : Int) < 19) = true := by rw [decide_eq_true_eq]; omega
           clear hst g48 gnm e8
           go_wp2_with fail
           go_round
           case rel => exact ⟨j + 1, _, nd + 1, nm + 1, dp, dot, true, tr, by omega, (by first | rfl | go_num), rfl, by go_num, rfl, rfl, rfl, by go_num, by go_num, rfl, HS⟩
           case measure => simp [intOf]; omega
         · rw [if_neg gnm, decide_eq_true g48, Bool.or_true] at hst
           have HS := Lib.hid hst
           have e7 : decide (((nm : Nat) : Int) < 19) = false := by rw [decide_eq_false_iff_not]; omega
           clear hst g48 gnm
           go_wp2_with fail
           go_round
           case rel => exact ⟨j + 1, m, nd + 1, nm, dp, dot, true, true, by omega, rfl, rfl, by go_num, rfl, rfl, rfl, by go_num, rfl, rfl, HS⟩
           case measure => simp [intOf]; omega
   · obtain rfl : j = q := by omega
     have hd : dot = true := by rw [hdt]; exact decide_eq_true (by omega)
     subst hd
     have hsd := rf_sd HF.out j (by omega) (Nat.le_refl _)
     rw [hrf.out] at hsd
     simp only at hsd
     subst hsd
     have hM : rfM s.data.toList = m := by unfold rfM; rw [HQ.out, hrf.out]
     have hT : rfT s.data.toList = tr := by unfold rfT; rw [HQ.out, hrf.out]
     clear hdt hjq
     have hcq := HE.out.e
     rw [HN.out j (by omega)] at hcq
     have hX : floatX s.data.toList = f := HFX.out
     have hrfM := hM
     have HRF := Lib.hid hrf
     have HMM := Lib.hid hM
     have HTT := Lib.hid hT
     clear hM hT hrf hrfM
     have eE := HE.out
     obtain ⟨_, ef1, ef2, ef3, esg, _⟩ := eE
     rw [hsz] at ef2 ef3
     have l1 : j + 1 < s.size := by omega
     obtain ⟨y, hy⟩ : ∃ y, s[j + 1].toNat = y := ⟨_, rfl⟩
     have hyn := HN.out (j + 1) l1
     rw [hy] at hyn
     rw [hyn] at esg
     obtain ⟨z, hz⟩ : ∃ z, s[f].toNat = z := ⟨_, rfl⟩
     have hzd := HE.out.dig f (Nat.le_refl _) (by rw [hsz]; exact ef2)
     rw [HN.out f ef2, hz] at hzd
     have w1 : decide (((z : Nat) : Int) < 48) = false := by rw [decide_eq_false_iff_not]; omega
     have w2 : decide ((57 : Int) < ((z : Nat) : Int)) = false := by rw [decide_eq_false_iff_not]; omega
     have or101 : bits .or .u8 101 32 = 101 := rfl
     obtain ⟨sgn, hsgn⟩ : ∃ sgn : Int, sgn = if nth s.data.toList (j + 1) = 45 then -1 else 1 := ⟨_, rfl⟩
     have hDp : rfDp s.data.toList = dp + exAt s.data.toList f (s.size - f) * sgn := by
      unfold rfDp
      rw [HQ.out, HRF.out, if_neg (by rw [hsz]; omega), hX, hsz, hsgn]
     have hEE : rfE s.data.toList = if m = 0 then 0 else dp + exAt s.data.toList f (s.size - f) * sgn - (nm : Int) := by unfold rfE; rw [HMM.out, hDp, HQ.out, HRF.out]
     have HEE := Lib.hid hEE
     rw [hyn] at hsgn
     clear hEE hDp hX hyn
     have hz1 : ∀ i (hi : i < s.size), i = f → s[i].toNat = z := by rintro i hi rfl; exact hz
     rcases esg with ⟨hf, rfl⟩ | ⟨hf, rfl⟩ | ⟨hf, hy1, hy2⟩
     case' inr.inr =>
      obtain rfl : y = z := hy.symm.trans (hz1 _ l1 hf.symm)
      have y1 : (((y : Nat) : Int) == 43) = false := by simp only [beq_eq_false_iff_ne, ne_eq]; omega
      have y2 : (((y : Nat) : Int) == 45) = false := by simp only [beq_eq_false_iff_ne, ne_eq]; omega
      rw [if_neg (by omega)] at hsgn
      clear hy1 hy2
     case' inl =>
      have l2 : j + 2 < s.size := by omega
      have hz2 := hz1 (j + 2) l2 hf.symm
      rw [if_neg (by decide)] at hsgn
     case' inr.inl =>
      have l2 : j + 2 < s.size := by omega
      have hz2 := hz1 (j + 2) l2 hf.symm
      rw [if_pos rfl] at hsgn
     all_goals
      subst hsgn
      have HSZ := Lib.hid hsz
      have HFF := Lib.hid hf
      have HF3 := Lib.hid ef3
      have HF2 := Lib.hid ef2
      clear hzd hz hz1 hf ef1 ef3 ef2
      go_wp2_with fail
      refine (HL.out _ _).mono ?_
      rintro e w' ⟨rfl, rfl⟩
      go_wp2_with fail
      go_loop [7, 9, 20] (fun a7 a9 a20 => ∃ (i : Nat) (e : Int), i ≤ s.size ∧ 0 ≤ e ∧ e ≤ 999 ∧ a7 = .int .i64 i ∧ a9 = .bool false ∧ a20 = .int .i64 e ∧ Hid (f ≤ i ∧ exAt s.data.toList f (i - f) = e ∧ ((i = f ∧ e = 0) ∨ (i = f + 1 ∧ e ≤ 9) ∨ (i = f + 2 ∧ e ≤ 99) ∨ i = f + 3))) (fun a7 _ _ => s.size + 1 - (intOf a7).toNat)
      case atStart =>
       have hf := HFF.out
       have hf2 := HF2.out
       exact ⟨f, 0, by omega, by omega, by omega, (by first | (rw [hf]; go_num) | go_num), rfl, rfl, Lib.hid ⟨Nat.le_refl _, by rw [Nat.sub_self]; rfl, .inl ⟨rfl, rfl⟩⟩⟩
      case round =>
       obtain ⟨i, e, hi, he0, he9, rfl, rfl, rfl, hex⟩ := hrel
       by_cases hil : i < s.size
       · have hdc := HE.out.dig i hex.out.1 (by rw [HSZ.out]; exact hil)
         have hni := HN.out i hil
         rw [hni] at hdc
         obtain ⟨c, hc⟩ : ∃ c, s[i].toNat = c := ⟨_, rfl⟩
         rw [hc] at hdc hni
         obtain ⟨c1, c2⟩ := hdc
         have v1 : decide ((48 : Int) ≤ ((c : Nat) : Int)) = true := by rw [decide_eq_true_eq]; omega
         have v2 : decide (((c : Nat) : Int) ≤ 57) = true := by rw [decide_eq_true_eq]; omega
         have v3 : (((c : Nat) : Int) == 95) = false := by simp only [beq_eq_false_iff_ne, ne_eq]; omega
         have v4 : decide (e < 10000) = true := by rw [decide_eq_true_eq]; omega
         have HX2 : Hid (f ≤ i + 1 ∧ exAt s.data.toList f (i + 1 - f) = e * 10 + (c : Int) - 48 ∧ ((i + 1 = f ∧ e * 10 + (c : Int) - 48 = 0) ∨ (i + 1 = f + 1 ∧ e * 10 + (c : Int) - 48 ≤ 9) ∨ (i + 1 = f + 2 ∧ e * 10 + (c : Int) - 48 ≤ 99) ∨ i + 1 = f + 3)) := Lib.hid (by
          obtain ⟨x1, x2, x3⟩ := hex.out
          have hf3 := HF3.out
          refine ⟨by omega, ?_, by omega⟩
          rw [show i + 1 - f = (i - f) + 1 by omega, exAt, x2, show f + (i - f) = i by omega, hni])
         have hb9 : 0 ≤ e * 10 + (c : Int) - 48 ∧ e * 10 + (c : Int) - 48 ≤ 999 := by
          obtain ⟨x1, x2, x3⟩ := hex.out
          have hf3 := HF3.out
          omega
         clear hex hni
         go_wp2_with fail
         go_round
         case rel => exact ⟨i + 1, e * 10 + (c : Int) - 48, by omega, hb9.1, hb9.2, by go_num, rfl, by go_num, HX2⟩
         case measure => simp [intOf]; omega
       · have his : i = s.size := by omega
         have HEX := Lib.hid hex.out.2.1
         have HIS := Lib.hid his
         clear his
         clear hex
         by_cases gm : m = 0
         · have hE2 := HEE.out
           rw [if_pos gm] at hE2
           have HE2 := Lib.hid hE2
           have q8 : (m != 0) = false := by simp only [bne_eq_false_iff_eq]; exact gm
           clear gm hE2
           go_wp2_with fail
           ((try simp only [Exit.inBlock, Exit.then]); (try rw [Exit.noGoto_ret]); (try simp only [Exit.inBlock, Exit.then]); refine bodyPost_ret (results_tmp7 rfl _ _ _) rfl ?_)
           exact ⟨ret7 HMM.out.symm HE2.out.symm HTT.out.symm HIS.out, rfl⟩
         · have hE2 := HEE.out
           rw [if_neg gm, ← HIS.out, HEX.out] at hE2
           have HE2 := Lib.hid hE2
           have q8 : (m != 0) = true := by simp only [bne_iff_ne, ne_eq]; exact gm
           clear gm hE2
           go_wp2_with fail
           ((try simp only [Exit.inBlock, Exit.then]); (try rw [Exit.noGoto_ret]); (try simp only [Exit.inBlock, Exit.then]); refine bodyPost_ret (results_tmp7 rfl _ _ _) rfl ?_)
           exact ⟨ret7 HMM.out.symm (by rw [HE2.out]; omega) HTT.out.symm HIS.out, rfl⟩
end Go.Proofs.YtmlclgkhnekmnaaGreatDoor
