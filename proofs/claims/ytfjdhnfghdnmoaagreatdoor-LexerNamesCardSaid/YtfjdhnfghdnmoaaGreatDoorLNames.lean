/-
  emendref09.Value, and the walk of emendlaw09.LexerNames AT EVERY TEXT: it returns true; no memory that was there turns. Conditions: the variables that are read hold what their text lays (Facts); FSpec.
-/
import Derived.Test.YtfjdhnfghdnmoaaGreatDoorLQuo
namespace Go.Proofs.YtfjdhnfghdnmoaaGreatDoor
open Go.RowKit

set_option maxRecDepth 100000 in
set_option maxHeartbeats 1000000 in
theorem rvalue_any (s : ByteArray) (hs : s.size ≤ 1000000) (w : World) : Calls Tryz.prog 14 #[.string s] w fun e w' => e = .returned (valV (valR s.data.toList)) ∧ Below w.heap.size w w' := by
  have hsz : s.data.toList.length = s.size := rfl
  have HI : Hid (∀ w, Calls Tryz.prog 32 #[.string s, .int .i64 0, .int .u8 34] w fun e w' => e = .returned (.bool (fst (is1 34) s.data.toList)) ∧ w = w') := Lib.hid (fun w => by have := ris_any s 0 34 w; rw [rest_zero] at this; exact this)
  have HK := Lib.hid (fun w => broken_any s hs w)
  unfold brokenV at HK
  rw [hsz] at HK
  obtain ⟨R, hR⟩ : ∃ R, R = valR s.data.toList := ⟨_, rfl⟩
  rw [← hR]
  unfold valR uqS at hR
  rw [hsz] at hR
  have hg := good_le s.data.toList
  rw [hsz] at hg
  cases h34 : fst (is1 34) s.data.toList with
  | false =>
    have HV : Hid (R = .error 4) := Lib.hid (by rw [hR, h34]; rfl)
    rw [h34] at HI
    clear h34 hR hsz HK hg
    go_enter Tryz.func14, Tryz.ntmps14
    go_wp2_with fail
    refine (HI.out _).mono ?_
    rintro e w' ⟨rfl, rfl⟩
    go_wp2_with fail
    go_ret2
    rw [HV.out]
    exact ⟨rfl, Below.refl _ _⟩
  | true =>
    have hk0 : 0 < s.size := st_len ⟨#[34]⟩ s 0 (by rw [rest_zero]; exact h34)
    rw [h34, if_pos rfl] at hR
    rw [h34] at HI
    have HQ : Hid (∀ w, Calls Tryz.prog 35 #[.string s, .int .i64 0] w fun e w' => e = .returned (quoV 0 (uqB (s.data.toList.drop 1))) ∧ Below w.heap.size w w') := Lib.hid (fun w => by
      have := rquoted_any s 0 hk0 hs w
      rw [← rest_drop, rest_zero] at this
      exact this)
    have hlen1 : (s.data.toList.drop 1).length = s.size - 1 := by rw [List.length_drop, hsz]
    clear h34 hsz
    by_cases hbr : good s.data.toList < s.size
    · have HV : Hid (R = .error 4) := Lib.hid (by
        rw [hR]
        cases uqB (s.data.toList.drop 1) with
        | none => rfl
        | some p =>
          obtain ⟨v, n⟩ := p
          simp only [Option.map_some]
          rw [if_pos (.inr hbr)])
      rw [if_pos hbr] at HK
      clear hR hbr hlen1 HQ
      generalize good s.data.toList = g at *
      have dg : decide (0 ≤ (g : Int)) = true := by rw [decide_eq_true_eq]; omega
      go_enter Tryz.func14, Tryz.ntmps14
      go_wp2_with fail
      refine (HI.out _).mono ?_
      rintro e w' ⟨rfl, rfl⟩
      go_wp2_with fail
      refine (HK.out _).mono ?_
      rintro e w' ⟨rfl, rfl⟩
      go_wp2_with fail
      go_ret2
      rw [HV.out]
      exact ⟨rfl, Below.refl _ _⟩
    · rw [if_neg hbr] at HK
      cases hu : uqB (s.data.toList.drop 1) with
      | none =>
        have HV : Hid (R = .error 4) := Lib.hid (by rw [hR, hu]; rfl)
        rw [hu] at HQ
        simp only [quoV] at HQ
        clear hR hu hbr hg
        go_enter Tryz.func14, Tryz.ntmps14
        go_wp2_with fail
        refine (HI.out _).mono ?_
        rintro e w' ⟨rfl, rfl⟩
        go_wp2_with fail
        refine (HK.out _).mono ?_
        rintro e w' ⟨rfl, rfl⟩
        go_wp2_with fail
        refine (HQ.out _).mono ?_
        rintro e w1 ⟨rfl, hb⟩
        have HB := Lib.hid hb
        clear hb
        go_wp2_with fail
        go_ret2
        rw [HV.out]
        exact ⟨rfl, HB.out⟩
      | some p =>
        obtain ⟨v, n⟩ := p
        have hn := uqF_len _ _ _ _ hu
        rw [hlen1] at hn
        obtain ⟨hn1, hn2, hn3⟩ := hn
        rw [hu] at HQ hR
        simp only [quoV, Option.map_some] at HQ hR
        obtain ⟨t, ht⟩ : ∃ t : Nat, t = 0 + 1 + n := ⟨_, rfl⟩
        rw [← ht] at HQ
        have e0 : (((t : Nat) : Int) == 0) = false := by simp only [beq_eq_false_iff_ne, ne_eq]; omega
        clear hu hlen1
        by_cases hne : n + 1 < s.size
        · have HV : Hid (R = .error 4) := Lib.hid (by rw [hR, if_pos (.inl hne)])
          have e1 : (((t : Nat) : Int) == (s.size : Int)) = false := by simp only [beq_eq_false_iff_ne, ne_eq]; omega
          have e2 : (((t : Nat) : Int) != (s.size : Int)) = true := by simp only [bne_iff_ne, ne_eq]; omega
          clear hR hbr hg ht
          go_enter Tryz.func14, Tryz.ntmps14
          go_wp2_with fail
          refine (HI.out _).mono ?_
          rintro e w' ⟨rfl, rfl⟩
          go_wp2_with fail
          refine (HK.out _).mono ?_
          rintro e w' ⟨rfl, rfl⟩
          go_wp2_with fail
          refine (HQ.out _).mono ?_
          rintro e w1 ⟨rfl, hb⟩
          have HB := Lib.hid hb
          clear hb
          go_wp2_with fail
          go_ret2
          rw [HV.out]
          exact ⟨rfl, HB.out⟩
        · have e1 : (((t : Nat) : Int) == (s.size : Int)) = true := by simp only [beq_iff_eq]; omega
          have e2 : (((t : Nat) : Int) != (s.size : Int)) = false := by simp only [bne_eq_false_iff_eq]; omega
          rw [if_neg (by omega)] at hR
          have hvs : (⟨v.toArray⟩ : ByteArray).size = v.length := rfl
          obtain ⟨vb, hvb⟩ : ∃ vb : ByteArray, vb = ⟨v.toArray⟩ := ⟨_, rfl⟩
          rw [← hvb] at HQ hvs
          by_cases hv : 4096 < v.length
          · have HV : Hid (R = .error 3) := Lib.hid (by rw [hR, if_pos hv])
            have e3 : decide (4096 < (vb.size : Int)) = true := by rw [decide_eq_true_eq]; omega
            clear hR hbr hg hv hvs hvb ht
            go_enter Tryz.func14, Tryz.ntmps14
            go_wp2_with fail
            refine (HI.out _).mono ?_
            rintro e w' ⟨rfl, rfl⟩
            go_wp2_with fail
            refine (HK.out _).mono ?_
            rintro e w' ⟨rfl, rfl⟩
            go_wp2_with fail
            refine (HQ.out _).mono ?_
            rintro e w1 ⟨rfl, hb⟩
            have HB := Lib.hid hb
            clear hb
            go_wp2_with fail
            go_ret2
            rw [HV.out]
            exact ⟨rfl, HB.out⟩
          · have HV : Hid (R = .ok v) := Lib.hid (by rw [hR, if_neg hv])
            have e3 : decide (4096 < (vb.size : Int)) = false := by rw [decide_eq_false_iff_not]; omega
            have HVB := Lib.hid hvb
            clear hR hbr hg hv hvs hvb ht
            go_enter Tryz.func14, Tryz.ntmps14
            go_wp2_with fail
            refine (HI.out _).mono ?_
            rintro e w' ⟨rfl, rfl⟩
            go_wp2_with fail
            refine (HK.out _).mono ?_
            rintro e w' ⟨rfl, rfl⟩
            go_wp2_with fail
            refine (HQ.out _).mono ?_
            rintro e w1 ⟨rfl, hb⟩
            have HB := Lib.hid hb
            clear hb
            go_wp2_with fail
            go_ret2
            rw [HV.out]
            exact ⟨ret_si HVB.out rfl, HB.out⟩
theorem valV_vals (o : Except Nat (List UInt8)) : ∃ (x : ByteArray) (z : Int), valV o = .tuple #[.string x, .int .i64 z] := by
  cases o with
  | error e => exact ⟨_, _, rfl⟩
  | ok v => exact ⟨_, _, rfl⟩
set_option maxRecDepth 100000 in
set_option maxHeartbeats 1000000 in
theorem lexerNames_walk {FW : World → Prop} {ff : List UInt8 → Nat} {OK : List UInt8 → Prop} (hS : FSpec FW ff OK) (s0 : ByteArray) (w : World) (hF : Facts w) (hW : FW w) : Calls Tryz.prog 4 #[.string s0] w fun e w' => e = .returned (.bool true) ∧ Below w.heap.size w w' := by
  have HC := Lib.hid (fun w => cut_any s0 w)
  have hs := cutB_size s0
  generalize cutB s0 = s at *
  have hs2 : s.size ≤ 1000000 := by omega
  have HF := Lib.hid (fun (W : World) (hb : Below w.heap.size w W) => hF.below hb)
  have HA := Lib.hid (fun (W : World) (hb : Below w.heap.size w W) => awake_any hS W (hF.below hb) (hS.keep w W hW hb))
  have HV := Lib.hid (fun (W : World) (hb : Below w.heap.size w W) => value_any s hs2 W (hF.below hb))
  have HU := Lib.hid (fun (W : World) => rvalue_any s hs2 W)
  obtain ⟨x, z, hv⟩ := valV_vals (valR s.data.toList)
  rw [hv] at HV HU
  have H1 := Lib.hid (fun w => reserved_any s w)
  have H2 := Lib.hid (fun w => rreserved_any s w)
  have H3 := Lib.hid (fun w => name_any s hs2 w)
  have H4 := Lib.hid (fun w => rnamed_any s hs2 w)
  have H5 := Lib.hid (fun w => exported_any s hs2 w)
  have H6 := Lib.hid (fun w => rexported_any s hs2 w)
  generalize isRes s.data.toList = a at *
  generalize nameB s.data.toList = b at *
  generalize expB s.data.toList = c at *
  clear hS hF hW hs hs2 hv
  have qa : (a == a) = true := by simp
  have qb : (b == b) = true := by simp
  have qc : (c == c) = true := by simp
  have qx : (x.toList == x.toList) = true := by simp
  have qz : (z == z) = true := by simp
  go_enter Tryz.func4, Tryz.ntmps4
  go_wp2_with fail
  refine (HC.out _).mono ?_
  rintro e w' ⟨rfl, rfl⟩
  go_wp2_with fail
  refine (HV.out _ (Below.refl _ _)).mono ?_
  rintro e w1 ⟨rfl, hb⟩
  have HB1 := Lib.hid hb
  clear hb
  go_wp2_with fail
  refine (HU.out _).mono ?_
  rintro e w2 ⟨rfl, hb⟩
  have HB2 := Lib.hid (HB1.out.trans (hb.mono HB1.out.size))
  clear hb
  go_wp2_with fail
  refine (H1.out _).mono ?_
  rintro e w' ⟨rfl, rfl⟩
  go_wp2_with fail
  refine (H2.out _).mono ?_
  rintro e w3 ⟨rfl, hb⟩
  have HB3 := Lib.hid (HB2.out.trans (hb.mono HB2.out.size))
  clear hb
  go_wp2_with fail
  refine (H3.out _).mono ?_
  rintro e w' ⟨rfl, rfl⟩
  go_wp2_with fail
  refine (H4.out _).mono ?_
  rintro e w4 ⟨rfl, hb⟩
  have HB4 := Lib.hid (HB3.out.trans (hb.mono HB3.out.size))
  clear hb
  go_wp2_with fail
  refine (H5.out _).mono ?_
  rintro e w' ⟨rfl, rfl⟩
  go_wp2_with fail
  refine (H6.out _).mono ?_
  rintro e w5 ⟨rfl, hb⟩
  have HB5 := Lib.hid (HB4.out.trans (hb.mono HB4.out.size))
  clear hb
  go_wp2_with fail
  refine (HA.out _ HB5.out).mono ?_
  rintro e w6 ⟨rfl, hb⟩
  have HB6 := Lib.hid (HB5.out.trans (hb.mono HB5.out.size))
  clear hb
  go_wp2_with fail
  go_ret
  exact ⟨rfl, HB6.out⟩
end Go.Proofs.YtfjdhnfghdnmoaaGreatDoor
