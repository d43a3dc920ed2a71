/-
  The walk of emendlaw09.LexerAgain AT EVERY TEXT: it returns true; no memory that was there turns. Conditions: the variables that are read hold what their text lays (Facts); what num.Float says of all floats (FSpec).
-/
import Derived.Test.YtpijgeogopopbaaGreatDoorLTold
import Derived.Deep.QuietTactic
import Derived.BigQuiet
namespace Go.Proofs.YtpijgeogopopbaaGreatDoor
open Go.RowKit

variable {FW : World → Prop} {ff : List UInt8 → Nat}
theorem drewN_below {w w' : World} {B : Nat} (h : Below B w w') (n : Nat) : Below B w (w'.drewN n) := h.trans ⟨rfl, rfl, rfl, Nat.le_refl _, fun _ _ => rfl⟩
theorem all_ok (s : ByteArray) : floatsOk (fun _ => True) s := fun _ _ _ => trivial
theorem kt_at {vs ts : List Tok} (h : vs.map kt = ts.map kt) (i : Nat) (t : Tok) (ht : ts[i]? = some t) : ∃ u, vs[i]? = some u ∧ u.1 = t.1 ∧ u.2.1 = t.2.1 := by
  have h1 := congrArg (·[i]?) h
  simp only [List.getElem?_map, ht, Option.map_some] at h1
  cases hu : vs[i]? with
  | none => rw [hu] at h1; cases h1
  | some u =>
    rw [hu] at h1
    have hk : kt u = kt t := by simpa using h1
    exact ⟨u, rfl, congrArg (fun z : Nat × List UInt8 => z.1) hk, congrArg (fun z : Nat × List UInt8 => z.2) hk⟩
set_option maxRecDepth 100000 in
set_option maxHeartbeats 4000000 in
theorem lexerAgain_walk (hS : FSpec FW ff (fun _ => True)) (s0 : ByteArray) (w : World) (hF : Facts w) (hW : FW w) : Calls Tryz.prog 4 #[.string s0] w fun e w' => e = .returned (.bool true) ∧ Below w.heap.size w w' := by
  have HC := Lib.hid (fun w => cut_any s0 w)
  have hs := cutB_size s0
  generalize cutB s0 = s at *
  have HA := Lib.hid (fun (W : World) (hb : Below w.heap.size w W) => awake_any hS W (hF.below hb) (hS.keep w W hW hb))
  obtain ⟨R, hR⟩ : ∃ R, R = tokensL ff s.data.toList := ⟨_, rfl⟩
  cases R with
  | error x =>
    obtain ⟨k, e0⟩ := x
    have HT := Lib.hid (tokens_no hS s (by omega) (all_ok s) k e0 hR.symm w hF hW)
    have he : e0 ≠ 0 := (place_in ff _ k e0 hR.symm (by show s.size ≤ _; omega)).2
    have q1 : (((e0 : Nat) : Int) == 0) = false := by simp only [beq_eq_false_iff_ne, ne_eq]; omega
    have q2 : (((e0 : Nat) : Int) != 0) = true := by simp only [bne_iff_ne, ne_eq]; omega
    clear hR hS hF hW he
    go_enter Tryz.func4, Tryz.ntmps4
    go_wp2_with fail
    refine (HC.out _).mono ?_
    rintro e w' ⟨rfl, rfl⟩
    go_wp2_with fail
    refine HT.out.mono ?_
    rintro e w1 ⟨A, cap, rfl, hb⟩
    have HB := Lib.hid hb
    clear hb
    go_wp2_with fail
    refine (HA.out _ HB.out).mono ?_
    rintro e w2 ⟨rfl, hb⟩
    have HB2 := Lib.hid (HB.out.trans (hb.mono HB.out.size))
    clear hb
    go_wp2_with fail
    go_ret
    exact ⟨rfl, HB2.out⟩
  | ok ts =>
    have HT := Lib.hid (tokens_ok hS s (by omega) (all_ok s) ts hR.symm w hF hW)
    have hsum := (tokens_WF ff _ ts hR.symm).2
    have hcnt := count_le ff _ ts hR.symm
    have hsz : s.data.toList.length = s.size := rfl
    obtain ⟨vs, hv1, hv2⟩ := again_same ff _ ts hR.symm (by rw [hsz]; omega)
    have hal := again_len ff _ ts hR.symm
    rw [hsz] at hsum hcnt hal
    have HV := Lib.hid (fun (W : World) (hb : Below w.heap.size w W) => tokens_ok hS (txt (agn ts)) (by rw [txt_size]; omega) (all_ok _) vs hv1 W (hF.below hb) (hS.keep w W hW hb))
    have HKT := Lib.hid (fun i t ht => kt_at hv2 i t ht)
    have hvl : vs.length = ts.length := by have := congrArg List.length hv2; simpa using this
    have HSUM := Lib.hid (fun i => sum_le ts i)
    obtain ⟨N, hN⟩ : ∃ N, ts.length = N := ⟨_, rfl⟩
    have HN := Lib.hid hN
    rw [hvl, hN] at HV
    rw [hN] at HT hcnt
    have HVL : Hid (vs.length = N) := Lib.hid (by rw [hvl, hN])
    clear hR hS hF hW hsz hN hv1 hv2 hvl hal
    have HSS := Lib.hid hsum
    clear hsum
    go_enter Tryz.func4, Tryz.ntmps4
    go_wp2_with fail
    refine (HC.out _).mono ?_
    rintro e w' ⟨rfl, rfl⟩
    go_wp2_with fail
    refine HT.out.mono ?_
    rintro e w1 ⟨A, cap, rfl, hr, hb⟩
    have HB := Lib.hid hb
    have HRD := Lib.hid hr
    clear hb hr
    go_wp2_with fail
    go_loop [6, 7] (fun o u => ∃ (i : Nat) (b : ByteArray), i ≤ N ∧ u = .int .i64 i ∧ o = .string b ∧ Hid (b = txt ((ts.take i).flatMap agn1)) ∧ Hid (b.size ≤ sumX (ts.take i) + i)) (fun _ u => N - (intOf u).toNat)
    case atStart => exact ⟨0, ⟨#[]⟩, Nat.zero_le _, rfl, rfl, Lib.hid rfl, Lib.hid (Nat.zero_le _)⟩
    case round =>
      obtain ⟨i, b, hi, rfl, rfl, hbt, hbs⟩ := hrel
      by_cases hlt : i < N
      · obtain ⟨t, ht⟩ : ∃ t, ts[i]? = some t := ⟨_, List.getElem?_eq_getElem (by have := HN.out; omega)⟩
        obtain ⟨g, rfl, hc⟩ := HRD.out (by have := HN.out; omega)
        obtain ⟨c0, c1, c2, c3⟩ := hc i t ht
        have hst := sum_take ts i t ht
        have hle := HSUM.out (i + 1)
        rw [hst] at hle
        have hb1 : b.size ≤ 400000 := by have := hbs.out; have := HSS.out; omega
        have hx1 : t.2.1.length ≤ 100000 := by have := HSS.out; omega
        have hfl := take_flat agn1 ts i t ht
        have HFL := Lib.hid hfl
        have HST := Lib.hid hst
        clear hc c2 c3 hle hst hfl ht
        obtain ⟨q, x, a, d⟩ := t
        simp only at c0 c1 hx1
        have hxs : (txt x).size ≤ 100000 := hx1
        clear hx1
        have hemp : (txt x).toList.isEmpty = x.isEmpty := by rw [txt_list]
        by_cases hsemi : q = 7 ∧ x = []
        · obtain ⟨rfl, rfl⟩ := hsemi
          have HB2 : Hid (b ++ ⟨#[10]⟩ = txt ((ts.take (i + 1)).flatMap agn1)) := Lib.hid (by
            rw [HFL.out, ← txt_app, hbt.out]; rfl)
          have HS2 : Hid ((b ++ ⟨#[10]⟩ : ByteArray).size ≤ sumX (ts.take (i + 1)) + (i + 1)) := Lib.hid (by
            rw [HST.out, ByteArray.size_append]
            have := hbs.out
            have e2 : (⟨#[10]⟩ : ByteArray).size = 1 := rfl
            rw [e2]; simp only [List.length_nil]; omega)
          have e1 : txt [] = ⟨#[]⟩ := rfl
          rw [e1] at c1
          clear hemp hxs e1
          go_wp2_with fail
          refine ⟨⟨i + 1, _, by omega, by go_num, rfl, HB2, HS2⟩, ?_⟩
          simp [RowKit.intOf]; omega
        · have hx0 : ∀ h7 : q = 7, x.isEmpty = false := fun h7 => by
            cases x with
            | nil => exact absurd ⟨h7, rfl⟩ hsemi
            | cons _ _ => rfl
          have HB2 : Hid (b ++ txt x ++ ⟨#[32]⟩ = txt ((ts.take (i + 1)).flatMap agn1)) := Lib.hid (by
            have e1 : agn1 (q, x, a, d) = x ++ [32] := by unfold agn1; rw [if_neg hsemi]
            rw [HFL.out, ← txt_app, hbt.out, e1, ← txt_app, ByteArray.append_assoc]; rfl)
          have HS2 : Hid ((b ++ txt x ++ ⟨#[32]⟩ : ByteArray).size ≤ sumX (ts.take (i + 1)) + (i + 1)) := Lib.hid (by
            rw [HST.out, ByteArray.size_append, ByteArray.size_append, txt_size]
            simp only
            have := hbs.out
            have e2 : (⟨#[32]⟩ : ByteArray).size = 1 := rfl
            rw [e2]; omega)
          by_cases h7 : q = 7
          · have hx0 := hx0 h7
            rw [hx0] at hemp
            have q7 : (((q : Nat) : Int) == 7) = true := by simp only [beq_iff_eq]; omega
            clear hsemi h7 hx0
            generalize txt x = xb at *
            go_wp2_with fail
            refine ⟨⟨i + 1, _, by omega, by go_num, rfl, HB2, HS2⟩, ?_⟩
            simp [RowKit.intOf]; omega
          · have q7 : (((q : Nat) : Int) == 7) = false := by simp only [beq_eq_false_iff_ne, ne_eq]; omega
            clear hsemi h7 hx0 hemp
            generalize txt x = xb at *
            go_wp2_with fail
            refine ⟨⟨i + 1, _, by omega, by go_num, rfl, HB2, HS2⟩, ?_⟩
            simp [RowKit.intOf]; omega
      · have HVV : Hid (b = txt (agn ts)) := Lib.hid (by
          rw [hbt.out, List.take_of_length_le (by have := HN.out; omega)]; rfl)
        have HTV := Lib.hid (HV.out w1 HB.out)
        rw [← HVV.out] at HTV
        clear hbt hbs
        go_wp2_with fail
        refine HTV.out.mono ?_
        rintro e w2 ⟨A2, cap2, rfl, hr2, hb2⟩
        have HRD1 := Lib.hid (treads_keep HRD.out hb2)
        have HRD2 := Lib.hid hr2
        have HB2 := Lib.hid (HB.out.trans (hb2.mono HB.out.size))
        clear hb2 hr2
        go_wp2_with fail
        go_loopw [11] (fun u wr => ∃ (i : Nat), i ≤ N ∧ u = .int .i64 i ∧ Hid (Below w.heap.size w wr) ∧ Hid (TReads wr A ts) ∧ Hid (TReads wr A2 vs)) (fun u _ => N - (intOf u).toNat)
        case atStart => exact ⟨0, Nat.zero_le _, rfl, HB2, HRD1, HRD2⟩
        case round =>
          obtain ⟨i, hi, rfl, hb, hr1, hr2⟩ := hrel
          by_cases hlt : i < N
          · obtain ⟨t, ht⟩ : ∃ t, ts[i]? = some t := ⟨_, List.getElem?_eq_getElem (by have := HN.out; omega)⟩
            obtain ⟨u, hu, huq, hux⟩ := HKT.out i t ht
            obtain ⟨g1, rfl, hc1⟩ := hr1.out (by have := HN.out; omega)
            obtain ⟨g2, rfl, hc2⟩ := hr2.out (by have := HVL.out; omega)
            obtain ⟨a0, a1, _, _⟩ := hc1 i t ht
            obtain ⟨b0, b1, _, _⟩ := hc2 i u hu
            rw [huq] at b0
            rw [hux] at b1
            obtain ⟨q, x, _, _⟩ := t
            simp only at a0 a1 b0 b1
            have e1 : ((q : Int) != (q : Int)) = false := by simp
            have e2 : ((txt x).toList == (txt x).toList) = true := by simp
            clear hc1 hc2 ht hu huq hux
            generalize txt x = xb at *
            go_wp2_with fail
            go_quiet (fail)
            go_wp2_with fail
            refine ⟨⟨i + 1, by omega, by go_num, Lib.hid (drewN_below hb.out nq), Lib.hid (treads_keep hr1.out (drewN_below (Below.refl _ _) nq)), Lib.hid (treads_keep hr2.out (drewN_below (Below.refl _ _) nq))⟩, ?_⟩
            simp [RowKit.intOf]; omega
          · go_wp2_with fail
            refine (HA.out _ hb.out).mono ?_
            rintro e w3 ⟨rfl, hb3⟩
            have HB3 := Lib.hid (hb.out.trans (hb3.mono hb.out.size))
            clear hb3
            go_wp2_with fail
            go_ret
            exact ⟨rfl, HB3.out⟩
end Go.Proofs.YtpijgeogopopbaaGreatDoor
