/- Part of a proof. -/
import Derived.Test.YtmlclgkhnekmnaaGreatDoorProg
import Derived.WalkKit
import Derived.KernelRfl
import Derived.Test.YtmlclgkhnekmnaaGreatDoorLVal
import Derived.Test.YtmlclgkhnekmnaaGreatDoorRows
import Derived.Test.YtmlclgkhnekmnaaGreatDoorDPlain3
import Derived.Deep.RegionWith
import Derived.Deep.DeepCutAuto
import Derived.BigFrame
import Derived.BigRegion
import Derived.BigQuiet
namespace Go.Proofs.YtmlclgkhnekmnaaGreatDoor
open Go.RowKit
theorem results_tmp7 {fn : Func} {a b c d e f g : Tmp} (h : fn.results = #[.tmp a, .tmp b, .tmp c, .tmp d, .tmp e, .tmp f, .tmp g]) (tmps : Array Value) (P : Program) (w : World) :
 (results fn tmps).run P w = .ok (.tuple #[tmps.getD a undef, tmps.getD b undef, tmps.getD c undef, tmps.getD d undef, tmps.getD e undef, tmps.getD f undef, tmps.getD g undef]) w := by
 simp [results, h]
set_option maxRecDepth 100000 in
set_option maxHeartbeats 4000000 in
theorem readFloat_plain (s : ByteArray) (hs : s.size ≤ 60) (p q : Nat) (hq : floatQ s.data.toList = q) (F : FForm s.data.toList p q) (hn : q = s.size) (w : World) : Calls Tryz.prog 211 #[.string s] w fun e w' => e = .returned (.tuple #[.int .u64 (rfM s.data.toList), .int .i64 (rfE s.data.toList), .bool false, .bool (rfT s.data.toList), .bool false, .int .i64 (s.size : Int), .bool true]) ∧ w = w' := by
 have hsz : s.data.toList.length = s.size := rfl
 obtain ⟨p1, pq, ql, hdot, hdig⟩ := id F
 rw [hsz] at ql
 have N := fun j (h : j < s.size) => nth_at2 s j h
 have h0 : 0 < s.size := by omega
 have h1 : 1 < s.size := by omega
 have d0 : 48 ≤ s[0].toNat ∧ s[0].toNat ≤ 57 := by rw [← N 0 h0]; exact hdig 0 (by omega) (by omega)
 have d1 : s[1].toNat = 46 ∨ (48 ≤ s[1].toNat ∧ s[1].toNat ≤ 57) := by
  rw [← N 1 h1]
  by_cases g : 1 = p
  · rw [g]; exact .inl hdot
  · exact .inr (hdig 1 (by omega) g)
 obtain ⟨x0, hx0⟩ : ∃ x, s[0].toNat = x := ⟨_, rfl⟩
 obtain ⟨x1, hx1⟩ : ∃ x, s[1].toNat = x := ⟨_, rfl⟩
 rw [hx0] at d0
 rw [hx1] at d1
 have q1 : (((x0 : Nat) : Int) == 43) = false := by simp only [beq_eq_false_iff_ne, ne_eq]; omega
 have q2 : (((x0 : Nat) : Int) == 45) = false := by simp only [beq_eq_false_iff_ne, ne_eq]; omega
 have q3 : decide ((2 : Int) < (s.size : Int)) = true := by rw [decide_eq_true_eq]; omega
 have q4 := nox x1 d1
 have qe : decide (s = ByteArray.empty) = false := by
  rw [decide_eq_false_iff_not]
  intro h
  rw [h] at h0
  exact absurd h0 (by decide)
 have HL := Lib.hid (fun c w => Tryz.internal_strconv_lower c w)
 have HF := Lib.hid F
 have HN := Lib.hid N
 have HQ := Lib.hid hq
 have HD := Lib.hid hdig
 have HDOT := Lib.hid hdot
 clear F N hdig hdot hq
 go_enter Tryz.func211, Tryz.ntmps211
 go_wp2_with fail
 go_step3
 by_cases g0 : x0 = 48
 case' pos =>
  have q5 : (((x0 : Nat) : Int) == 48) = true := by simp only [beq_iff_eq]; omega
  clear g0 d0 d1
  go_wp2_with fail
  refine (HL.out _ _).mono ?_
  rintro e w' ⟨rfl, rfl⟩
  go_wp2_with fail
 case' neg =>
  have q5 : (((x0 : Nat) : Int) == 48) = false := by simp only [beq_eq_false_iff_ne, ne_eq]; omega
  clear g0 d0 d1
  go_wp2_with fail
 all_goals
  clear q1 q2 q3 q4 q5 qe hx0 hx1
  go_step3
  go_wp2_with fail
  go_loop [2, 5, 7, 9, 13, 14, 15, 16, 17] (fun a2 a5 a7 a9 a13 a14 a15 a16 a17 => ∃ (j : Nat) (m : Int) (nd nm : Nat) (dp : Int) (dot sd tr : Bool), j ≤ q ∧ a2 = .int .u64 m ∧ a5 = .bool tr ∧ a7 = .int .i64 j ∧ a9 = .bool false ∧ a13 = .bool dot ∧ a14 = .bool sd ∧ a15 = .int .i64 nd ∧ a16 = .int .i64 nm ∧ a17 = .int .i64 dp ∧ Hid (rfAt s.data.toList j = ⟨m, nd, nm, dp, dot, sd, tr⟩)) (fun _ _ a7 _ _ _ _ _ _ => s.size + 1 - (intOf a7).toNat)
  case atStart => exact ⟨0, 0, 0, 0, 0, false, false, false, by omega, rfl, rfl, rfl, rfl, rfl, rfl, rfl, rfl, rfl, Lib.hid rfl⟩
  case round =>
   obtain ⟨j, m, nd, nm, dp, dot, sd, tr, hj, rfl, rfl, rfl, rfl, rfl, rfl, rfl, rfl, rfl, hrf⟩ := hrel
   have hb := rf_bounds s.data.toList j
   rw [hrf.out] at hb
   obtain ⟨b1, b2, b3, b4, b5⟩ := hb
   simp only at b1 b2 b3 b4 b5
   have hdt := rf_dot HF.out j hj
   rw [hrf.out] at hdt
   simp only at hdt
   by_cases hjq : j < q
   · have hjs : j < s.size := by omega
     have hnt := HN.out j hjs
     obtain ⟨c, hc⟩ : ∃ c, s[j].toNat = c := ⟨_, rfl⟩
     rw [hc] at hnt
     have hst : rfAt s.data.toList (j + 1) = rfStep ⟨m, nd, nm, dp, dot, sd, tr⟩ c := by rw [rfAt, hrf.out, hnt]
     clear hrf
     by_cases hjp : j = p
     · have hc46 : c = 46 := by rw [← hnt, hjp]; exact HDOT.out
       subst hc46
       have hd : dot = false := by rw [hdt]; exact decide_eq_false (by omega)
       subst hd
       unfold rfStep at hst
       rw [if_pos rfl] at hst
       have HS := Lib.hid hst
       clear hst hnt hdt hjp
       go_wp2_with fail
       go_round
       case rel => exact ⟨j + 1, m, nd, nm, nd, true, sd, tr, by omega, rfl, rfl, by go_num, rfl, rfl, rfl, rfl, rfl, rfl, HS⟩
       case measure => simp [intOf]; omega
     · have hcd := HD.out j (by omega) hjp
       rw [hnt] at hcd
       obtain ⟨c1, c2⟩ := hcd
       have e1 : (((c : Nat) : Int) == 95) = false := by simp only [beq_eq_false_iff_ne, ne_eq]; omega
       have e2 : (((c : Nat) : Int) == 46) = false := by simp only [beq_eq_false_iff_ne, ne_eq]; omega
       have e3 : decide ((48 : Int) ≤ ((c : Nat) : Int)) = true := by rw [decide_eq_true_eq]; omega
       have e4 : decide (((c : Nat) : Int) ≤ 57) = true := by rw [decide_eq_true_eq]; omega
       have c46 : c ≠ 46 := by omega
       unfold rfStep at hst
       rw [if_neg c46] at hst
       clear hdt hjp hnt c46
       by_cases g48 : c = 48
       · by_cases gnd : nd = 0
         · rw [if_pos ⟨g48, gnd⟩] at hst
           have HS := Lib.hid hst
           have e5 : (((c : Nat) : Int) == 48) = true := by simp only [beq_iff_eq]; omega
           have e6 : (((nd : Nat) : Int) == 0) = true := by simp only [beq_iff_eq]; omega
           clear hst g48 gnd
           go_wp2_with fail
           go_round
           case rel => exact ⟨j + 1, m, nd, nm, dp - 1, dot, true, tr, by omega, rfl, rfl, by go_num, rfl, rfl, rfl, rfl, rfl, by go_num, HS⟩
           case measure => simp [intOf]; omega
         · rw [if_neg (fun h => gnd h.2)] at hst
           have e5 : (((c : Nat) : Int) == 48) = true := by simp only [beq_iff_eq]; omega
           have e6 : (((nd : Nat) : Int) == 0) = false := by simp only [beq_eq_false_iff_ne, ne_eq]; omega
           have e8 : (((c : Nat) : Int) != 48) = false := by simp only [bne_eq_false_iff_eq]; omega
           by_cases gnm : nm < 19
           · rw [if_pos gnm] at hst
             have HS := Lib.hid hst
             have e7 : decide (((nm : Nat) : Int) < 19) = true := by rw [decide_eq_true_eq]; omega
             clear hst g48 gnd gnm e8
             go_wp2_with fail
             go_round
             case rel => exact ⟨j + 1, _, nd + 1, nm + 1, dp, dot, true, tr, by omega, (by first | rfl | go_num), rfl, by go_num, rfl, rfl, rfl, by go_num, by go_num, rfl, HS⟩
             case measure => simp [intOf]; omega
           · rw [if_neg gnm, decide_eq_false (fun h => h g48), Bool.or_false] at hst
             have HS := Lib.hid hst
             have e7 : decide (((nm : Nat) : Int) < 19) = false := by rw [decide_eq_false_iff_not]; omega
             clear hst g48 gnd gnm
             go_wp2_with fail
             go_round
             case rel => exact ⟨j + 1, m, nd + 1, nm, dp, dot, true, tr, by omega, rfl, rfl, by go_num, rfl, rfl, rfl, by go_num, rfl, rfl, HS⟩
             case measure => simp [intOf]; omega
       · rw [if_neg (fun h => g48 h.1)] at hst
         have e5 : (((c : Nat) : Int) == 48) = false := by simp only [beq_eq_false_iff_ne, ne_eq]; omega
         have e8 : (((c : Nat) : Int) != 48) = true := by simp only [bne_iff_ne, ne_eq]; omega
         by_cases gnm : nm < 19
         · rw [if_pos gnm] at hst
           have HS := Lib.hid hst
           have e7 : decide (((nm : Nat) : Int) < 19) = true := by rw [decide_eq_true_eq]; omega
           clear hst g48 gnm e8
           go_wp2_with fail
           go_round
           case rel => exact ⟨j + 1, _, nd + 1, nm + 1, dp, dot, true, tr, by omega, (by first | rfl | go_num), rfl, by go_num, rfl, rfl, rfl, by go_num, by go_num, rfl, HS⟩
           case measure => simp [intOf]; omega
         · rw [if_neg gnm, decide_eq_true g48, Bool.or_true] at hst
           have HS := Lib.hid hst
           have e7 : decide (((nm : Nat) : Int) < 19) = false := by rw [decide_eq_false_iff_not]; omega
           clear hst g48 gnm
           go_wp2_with fail
           go_round
           case rel => exact ⟨j + 1, m, nd + 1, nm, dp, dot, true, true, by omega, rfl, rfl, by go_num, rfl, rfl, rfl, by go_num, rfl, rfl, HS⟩
           case measure => simp [intOf]; omega
   · obtain rfl : j = q := by omega
     have hd : dot = true := by rw [hdt]; exact decide_eq_true (by omega)
     subst hd
     have hsd := rf_sd HF.out j (by omega) (Nat.le_refl _)
     rw [hrf.out] at hsd
     simp only at hsd
     subst hsd
     have hM : rfM s.data.toList = m := by unfold rfM; rw [HQ.out, hrf.out]
     have hT : rfT s.data.toList = tr := by unfold rfT; rw [HQ.out, hrf.out]
     clear hdt hjq
     have hDp : rfDp s.data.toList = dp := by unfold rfDp; rw [HQ.out, hrf.out, if_pos (by rw [hsz]; exact hn)]; simp
     have hE : rfE s.data.toList = if m = 0 then 0 else dp - (nm : Int) := by unfold rfE; rw [hM, hDp, HQ.out, hrf.out]
     have q9 : decide (((j : Nat) : Int) < ((s.size : Nat) : Int)) = false := by rw [decide_eq_false_iff_not]; omega
     have q9n : ¬ j < s.size := by omega
     have HM := Lib.hid hM
     have HT := Lib.hid hT
     have HJ := Lib.hid hn
     clear hM hT hDp hrf hn
     by_cases gm : m = 0
     · rw [if_pos gm] at hE
       have HEE := Lib.hid hE
       have q8 : (m != 0) = false := by simp only [bne_eq_false_iff_eq]; exact gm
       clear gm hE
       go_wp2_with fail
       ((try simp only [Exit.inBlock, Exit.then]); (try rw [Exit.noGoto_ret]); (try simp only [Exit.inBlock, Exit.then]); refine bodyPost_ret (results_tmp7 rfl _ _ _) rfl ?_)
       exact ⟨ret7 HM.out.symm HEE.out.symm HT.out.symm HJ.out, rfl⟩
     · rw [if_neg gm] at hE
       have HEE := Lib.hid hE
       have q8 : (m != 0) = true := by simp only [bne_iff_ne, ne_eq]; exact gm
       clear gm hE
       go_wp2_with fail
       ((try simp only [Exit.inBlock, Exit.then]); (try rw [Exit.noGoto_ret]); (try simp only [Exit.inBlock, Exit.then]); refine bodyPost_ret (results_tmp7 rfl _ _ _) rfl ?_)
       exact ⟨ret7 HM.out.symm HEE.out.symm HT.out.symm HJ.out, rfl⟩
end Go.Proofs.YtmlclgkhnekmnaaGreatDoor
namespace Go.Proofs.YtmlclgkhnekmnaaGreatDoor
def fr0 (s : Stepped) : Frame := match s with
 | .next m => match m.gs[0]? with
  | some g => g.frame
  | none => default
 | _ => default
theorem calls_run {P : Program} {f : FuncId} {args : Array Value} {w : World} {v : Value} (n : Nat) {fn : Func} (h5 : P.funcs[f]? = some fn)
 (h : ∀ cs, runN P n (lone (Frame.enter P f args .normal) cs w) = .next (lone (fr0 (runN P n (lone (Frame.enter P f args .normal) [] w))) cs w))
 (h1 : (fr0 (runN P n (lone (Frame.enter P f args .normal) [] w))).fn = f) (h2 : (fr0 (runN P n (lone (Frame.enter P f args .normal) [] w))).mode = .returning)
 (h3 : (fr0 (runN P n (lone (Frame.enter P f args .normal) [] w))).defers = []) (h4 : (fr0 (runN P n (lone (Frame.enter P f args .normal) [] w))).kind = .normal)
 (h6 : (results fn (fr0 (runN P n (lone (Frame.enter P f args .normal) [] w))).tmps).run P w = .ok v w) : Calls P f args w fun e w' => e = .returned v ∧ w = w' :=
 fun cs => ⟨.returned v, w, _, ⟨rfl, rfl⟩, ⟨n, h cs⟩, h1, h2, h3, h4, fn, h1.symm ▸ h5, h6⟩
theorem bool2false (w : World) : Calls Tryz.prog 219 #[.bool false] w fun e w' => e = .returned (.int .u64 0) ∧ w = w' :=
 calls_run 16 Tryz.func219 (fun _ => by kernel_rfl) (by kernel_rfl) (by kernel_rfl) (by kernel_rfl) (by kernel_rfl) (by kernel_rfl)
end Go.Proofs.YtmlclgkhnekmnaaGreatDoor
namespace Go.Proofs.YtmlclgkhnekmnaaGreatDoor
open Go.RowKit Go.Lib
def fpow10 : List Nat := match (Rows.laid_internal_strconv_float64pow10 : DataW Unit) with
 | .slice l _ => l.map fun | .lit (.float _ n) => n | _ => 0
 | _ => []
structure FltFacts (W : World) : Prop where
 mant : W.cell? ⟨8, 0, none⟩ = some (.int .u64 52)
 opt : W.cell? ⟨7, 0, none⟩ = some (.bool true)
 fpow : ∃ R o cap, W.cell? ⟨11, 0, none⟩ = some (.slice (some ⟨R, o, none⟩) 23 cap) ∧ ∀ i, i < 23 → W.cell? ⟨R, o + i, none⟩ = some (.float .f64 (fpow10.getD i 0))
theorem FltFacts.below {W W' : World} (h : FltFacts W) (hb : Below W.heap.size W W') : FltFacts W' := by
 refine ⟨cell_keep2 hb h.mant, cell_keep2 hb h.opt, ?_⟩
 obtain ⟨R, o, cap, h1, h2⟩ := h.fpow
 exact ⟨R, o, cap, cell_keep2 hb h1, fun i hi => cell_keep2 hb (h2 i hi)⟩
end Go.Proofs.YtmlclgkhnekmnaaGreatDoor
namespace Go.Proofs.YtmlclgkhnekmnaaGreatDoor
open Go.RowKit
theorem bool2u (b : Bool) (w : World) : Calls Tryz.prog 219 #[.bool b] w fun e w' => e = .returned (.int .u64 (if b then 1 else 0)) ∧ w = w' := by
 cases b
 · go_enter Tryz.func219, Tryz.ntmps219
   go_wp2_with fail
   go_ret
   exact ⟨rfl, rfl⟩
 · go_enter Tryz.func219, Tryz.ntmps219
   go_wp2_with fail
   go_ret
   exact ⟨rfl, rfl⟩
theorem log2_any (x : Int) (h : -2000 ≤ x ∧ x ≤ 2000) : ∃ n : Int, -10000 ≤ n ∧ n ≤ 10000 ∧ ∀ w, Calls Tryz.prog 230 #[.int .i64 x] w fun e w' => e = .returned (.int .i64 n) ∧ w = w' := by
 refine ⟨x * 108853 / 32768, by omega, by omega, fun w => ?_⟩
 go_enter Tryz.func230, Tryz.ntmps230
 go_wp2_with fail
 go_ret
 exact ⟨rfl, rfl⟩
theorem unmin_any (w : World) : Calls Tryz.prog 234 #[.int .u64 9007199254740992] w fun e w' => e = .returned (.int .u64 36028797018963966) ∧ w = w' := by
 go_enter Tryz.func234, Tryz.ntmps234
 go_wp2_with fail
 go_ret
 exact ⟨rfl, rfl⟩
def roundV (x : Int) : Int := IntKind.u64.wrap (IntKind.u64.wrap (x + 1) + bits .and .u64 (x / 4) 1) / 4
theorem round_any (x : Int) (w : World) : Calls Tryz.prog 236 #[.int .u64 x] w fun e w' => e = .returned (.int .u64 (roundV x)) ∧ w = w' := by
 unfold roundV
 go_enter Tryz.func236, Tryz.ntmps236
 go_wp2_with fail
 go_ret
 exact ⟨rfl, rfl⟩
theorem frombits_run (m : Int) (w : World) : (callFunc 220 #[.int .u64 m]).run Tryz.prog w = .ok (.value (.float .f64 m.toNat)) w := by kernel_rfl
def packV (m e : Int) : Nat × Bool :=
 if bits .and .u64 m 4503599627370496 == 0 then (m.toNat, false)
 else if 972 ≤ e then ((bits .or .u64 (bits .and .u64 m 9223372036854775808) 9218868437227405312).toNat, true)
 else ((bits .or .u64 (bits .andNot .u64 m 4503599627370496) (IntKind.u64.wrap (IntKind.u64.wrap (1075 + e) * 4503599627370496))).toNat, false)
def errV (b : Bool) : Value := if b then .iface 149 (.int .i64 1) else .nilIface
set_option maxRecDepth 100000 in
theorem pack_any (m e : Int) (he : -30000 ≤ e ∧ e ≤ 30000) (w : World) : Calls Tryz.prog 239 #[.int .u64 m, .int .i64 e] w fun e' w' => e' = .returned (.tuple #[.float .f64 (packV m e).1, errV (packV m e).2]) ∧ w = w' := by
 have hq := frombits_run
 cases h1 : (bits .and .u64 m 4503599627370496 == 0) with
 | true =>
  have hv : packV m e = (m.toNat, false) := by unfold packV; rw [if_pos h1]
  rw [hv]
  go_enter Tryz.func239, Tryz.ntmps239
  go_wp2_with fail
  go_ret2
  exact ⟨rfl, rfl⟩
 | false =>
  by_cases h2 : 972 ≤ e
  · have hv : packV m e = ((bits .or .u64 (bits .and .u64 m 9223372036854775808) 9218868437227405312).toNat, true) := by unfold packV; rw [if_neg (by rw [h1]; simp), if_pos h2]
    rw [hv]
    go_enter Tryz.func239, Tryz.ntmps239
    go_wp2_with fail
    go_ret2
    exact ⟨rfl, rfl⟩
  · have hv : packV m e = ((bits .or .u64 (bits .andNot .u64 m 4503599627370496) (IntKind.u64.wrap (IntKind.u64.wrap (1075 + e) * 4503599627370496))).toNat, false) := by unfold packV; rw [if_neg (by rw [h1]; simp), if_neg h2]
    rw [hv]
    go_enter Tryz.func239, Tryz.ntmps239
    go_wp2_with fail
    go_ret2
    exact ⟨rfl, rfl⟩
end Go.Proofs.YtmlclgkhnekmnaaGreatDoor
