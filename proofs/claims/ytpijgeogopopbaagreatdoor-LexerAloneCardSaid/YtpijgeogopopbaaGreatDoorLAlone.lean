/-
  The walk of emendlaw09.LexerAlone AT EVERY TWO TEXTS: it returns true; no memory that was there turns. Conditions: the variables that are read hold what their text lays (Facts); what num.Float says of all floats (FSpec).
-/
import Derived.Test.YtpijgeogopopbaaGreatDoorLAgain
import Derived.Test.YtpijgeogopopbaaGreatDoorLNames
namespace Go.Proofs.YtpijgeogopopbaaGreatDoor
open Go.RowKit

variable {FW : World → Prop} {ff : List UInt8 → Nat}
theorem txt_self (s : ByteArray) : txt s.data.toList = s := by
  apply ByteArray.ext
  simp [txt]
theorem valR_err {x : List UInt8} {e : Nat} (h : valR x = .error e) : e ≠ 0 := by
  unfold valR at h
  split at h
  · cases h; decide
  · split at h
    · cases h; decide
    · split at h
      · cases h; decide
      · cases h
theorem name_res {x : List UInt8} (h : nameB x = true) : isRes x = false := by
  unfold nameB at h
  simp only [Bool.and_eq_true, Bool.not_eq_true'] at h
  exact h.1.2
theorem name_noval (ff : List UInt8 → Nat) {x : List UInt8} (h : nameB x = true) (hl : x.length ≤ 65536) : ∃ e, valR x = .error e ∧ e ≠ 0 := by
  cases hv : valR x with
  | error e => exact ⟨e, rfl, valR_err hv⟩
  | ok v =>
    have h1 := name_alone ff x h hl
    have h2 := (value_alone ff x v hv hl).1
    rw [h1] at h2
    simp at h2
theorem app_list (s t : ByteArray) : (s ++ t).data.toList = s.data.toList ++ t.data.toList := by
  rw [ByteArray.data_append]; simp
theorem both_list (s t : ByteArray) : (s ++ ⟨#[32]⟩ ++ t).data.toList = s.data.toList ++ 32 :: t.data.toList := by
  rw [app_list, app_list]; simp
theorem app_size (s t : ByteArray) : (s ++ t).size = s.size + t.size := by
  rw [← ByteArray.size_data, ByteArray.data_append]; simp
set_option maxRecDepth 100000 in
set_option maxHeartbeats 4000000 in
theorem alone_walk (hS : FSpec FW ff (fun _ => True)) (s0 t0 : ByteArray) (w : World) (hF : Facts w) (hW : FW w) : Calls Tryz.prog 6 #[.string s0, .string t0] w fun e w' => e = .returned (.bool true) ∧ Below w.heap.size w w' := by
  have HC := Lib.hid (fun w => cut_any s0 w)
  have HD := Lib.hid (fun w => cut_any t0 w)
  have hs := cutB_size s0
  have ht := cutB_size t0
  generalize cutB s0 = s at *
  generalize cutB t0 = t at *
  have hsz : s.data.toList.length = s.size := rfl
  have htz : t.data.toList.length = t.size := rfl
  have HA := Lib.hid (fun (W : World) (hb : Below w.heap.size w W) => awake_any hS W (hF.below hb) (hS.keep w W hW hb))
  have HN := Lib.hid (fun w => name_any s (by omega) w)
  have HM := Lib.hid (fun w => name_any t (by omega) w)
  have HV := Lib.hid (fun (W : World) (hb : Below w.heap.size w W) => value_any s (by omega) W (hF.below hb))
  cases hn : nameB s.data.toList with
  | true =>
    have HT := Lib.hid (tokens_ok hS s (by omega) (all_ok _) _ (name_alone ff _ hn (by omega)) w hF hW)
    obtain ⟨e0, hve, he0⟩ := name_noval ff hn (by omega)
    have q0 : (((e0 : Nat) : Int) == 0) = false := by simp only [beq_eq_false_iff_ne, ne_eq]; omega
    rw [hve] at HV
    rw [hn] at HN
    have HR := Lib.hid (fun w => reserved_any s w)
    rw [name_res hn] at HR
    obtain ⟨x0, hx0⟩ := valV_shape (.error e0)
    rw [hx0] at HV
    simp only [valE] at HV
    clear hve he0 hx0
    cases hm : nameB t.data.toList with
    | true =>
      obtain ⟨a, b, c, d, hb2⟩ := names_two ff _ _ hn hm (by omega)
      rw [← both_list] at hb2
      have HT2 := Lib.hid (fun (W : World) (hb : Below w.heap.size w W) => tokens_ok hS (s ++ ⟨#[32]⟩ ++ t) (by rw [app_size, app_size]; show s.size + 1 + t.size ≤ _; omega) (all_ok _) _ hb2 W (hF.below hb) (hS.keep w W hW hb))
      have HJ := Lib.hid (fun w => name_any (s ++ t) (by rw [app_size]; omega) w)
      have HRJ := Lib.hid (fun w => reserved_any (s ++ t) w)
      rw [app_list] at HJ HRJ
      rw [name_join _ _ hn hm, hsz, htz] at HJ
      generalize isRes (s.data.toList ++ t.data.toList) = R at HJ HRJ
      rw [hm] at HM
      clear hb2 hm hn hS hF hW
      go_enter Tryz.func6, Tryz.ntmps6
      go_wp2_with fail
      refine (HC.out _).mono ?_
      rintro e w' ⟨rfl, rfl⟩
      go_wp2_with fail
      refine (HD.out _).mono ?_
      rintro e w' ⟨rfl, rfl⟩
      go_wp2_with fail
      refine HT.out.mono ?_
      rintro e w1 ⟨A, cap, rfl, hr, hb⟩
      obtain ⟨g, rfl, hc⟩ := hr (Nat.zero_lt_succ _)
      obtain ⟨a0, a1, a2, a3⟩ := hc 0 _ rfl
      obtain ⟨_, d1, _, _⟩ := hc 1 _ rfl
      simp only [txt_self, hsz] at a1 a3
      have t2 : txt [] = ⟨#[]⟩ := rfl
      rw [t2] at d1
      have HB1 := Lib.hid hb
      clear hb hc hr t2
      go_wp2_with fail
      refine (HN.out _).mono ?_
      rintro e w' ⟨rfl, rfl⟩
      go_wp2_with fail
      refine (HR.out _).mono ?_
      rintro e w' ⟨rfl, rfl⟩
      go_wp2_with fail
      refine (HV.out _ HB1.out).mono ?_
      rintro e w2 ⟨rfl, hb⟩
      have HB2 := Lib.hid (HB1.out.trans (hb.mono HB1.out.size))
      clear hb a0 a1 a2 a3 d1
      go_wp2_with fail
      refine (HN.out _).mono ?_
      rintro e w' ⟨rfl, rfl⟩
      go_wp2_with fail
      refine (HM.out _).mono ?_
      rintro e w' ⟨rfl, rfl⟩
      go_wp2_with fail
      refine (HT2.out _ HB2.out).mono ?_
      rintro e w3 ⟨A, cap, rfl, hr, hb⟩
      obtain ⟨g2, rfl, hc⟩ := hr (Nat.zero_lt_succ _)
      obtain ⟨_, a1, _, _⟩ := hc 0 _ rfl
      obtain ⟨_, d1, _, _⟩ := hc 1 _ rfl
      simp only [txt_self] at a1 d1
      have HB3 := Lib.hid (HB2.out.trans (hb.mono HB2.out.size))
      clear hb hc hr
      go_wp2_with fail
      refine (HJ.out _).mono ?_
      rintro e w' ⟨rfl, rfl⟩
      by_cases h40 : s.size + t.size ≤ 40
      · have q40 : decide ((s.size : Int) + (t.size : Int) ≤ 40) = true := by rw [decide_eq_true_eq]; omega
        rw [decide_eq_true h40]
        cases R
        · simp only [Bool.not_false, Bool.true_and] at *
          go_wp2_with fail
          refine (HRJ.out _).mono ?_
          rintro e w' ⟨rfl, rfl⟩
          go_wp2_with fail
          refine (HA.out _ HB3.out).mono ?_
          rintro e w4 ⟨rfl, hb⟩
          have HB4 := Lib.hid (HB3.out.trans (hb.mono HB3.out.size))
          clear hb
          go_wp2_with fail
          go_ret
          exact ⟨rfl, HB4.out⟩
        · simp only [Bool.not_true, Bool.and_false] at *
          go_wp2_with fail
          refine (HRJ.out _).mono ?_
          rintro e w' ⟨rfl, rfl⟩
          go_wp2_with fail
          refine (HA.out _ HB3.out).mono ?_
          rintro e w4 ⟨rfl, hb⟩
          have HB4 := Lib.hid (HB3.out.trans (hb.mono HB3.out.size))
          clear hb
          go_wp2_with fail
          go_ret
          exact ⟨rfl, HB4.out⟩
      · have q40 : decide ((s.size : Int) + (t.size : Int) ≤ 40) = false := by rw [decide_eq_false_iff_not]; omega
        rw [decide_eq_false h40, Bool.false_and]
        go_wp2_with fail
        refine (HA.out _ HB3.out).mono ?_
        rintro e w4 ⟨rfl, hb⟩
        have HB4 := Lib.hid (HB3.out.trans (hb.mono HB3.out.size))
        clear hb
        go_wp2_with fail
        go_ret
        exact ⟨rfl, HB4.out⟩
    | false =>
      rw [hm] at HM
      clear hm hn hS hF hW
      go_enter Tryz.func6, Tryz.ntmps6
      go_wp2_with fail
      refine (HC.out _).mono ?_
      rintro e w' ⟨rfl, rfl⟩
      go_wp2_with fail
      refine (HD.out _).mono ?_
      rintro e w' ⟨rfl, rfl⟩
      go_wp2_with fail
      refine HT.out.mono ?_
      rintro e w1 ⟨A, cap, rfl, hr, hb⟩
      obtain ⟨g, rfl, hc⟩ := hr (Nat.zero_lt_succ _)
      obtain ⟨a0, a1, a2, a3⟩ := hc 0 _ rfl
      obtain ⟨_, d1, _, _⟩ := hc 1 _ rfl
      simp only [txt_self, hsz] at a1 a3
      have t2 : txt [] = ⟨#[]⟩ := rfl
      rw [t2] at d1
      have HB1 := Lib.hid hb
      clear hb hc hr t2
      go_wp2_with fail
      refine (HN.out _).mono ?_
      rintro e w' ⟨rfl, rfl⟩
      go_wp2_with fail
      refine (HR.out _).mono ?_
      rintro e w' ⟨rfl, rfl⟩
      go_wp2_with fail
      refine (HV.out _ HB1.out).mono ?_
      rintro e w2 ⟨rfl, hb⟩
      have HB2 := Lib.hid (HB1.out.trans (hb.mono HB1.out.size))
      clear hb a0 a1 a2 a3 d1
      go_wp2_with fail
      refine (HN.out _).mono ?_
      rintro e w' ⟨rfl, rfl⟩
      go_wp2_with fail
      refine (HM.out _).mono ?_
      rintro e w' ⟨rfl, rfl⟩
      go_wp2_with fail
      refine (HA.out _ HB2.out).mono ?_
      rintro e w4 ⟨rfl, hb⟩
      have HB4 := Lib.hid (HB2.out.trans (hb.mono HB2.out.size))
      clear hb
      go_wp2_with fail
      go_ret
      exact ⟨rfl, HB4.out⟩
  | false =>
    rw [hn] at HN
    clear hn HM
    cases hv : valR s.data.toList with
    | ok v =>
      obtain ⟨h1, h2⟩ := value_alone ff _ v hv (by omega)
      have HT := Lib.hid (tokens_ok hS s (by omega) (all_ok _) _ h1 w hF hW)
      rw [hv] at HV
      simp only [valV] at HV
      obtain ⟨V, hV⟩ : ∃ V : ByteArray, V = ⟨v.toArray⟩ := ⟨_, rfl⟩
      rw [← hV] at HV
      have hvs : V.size = v.length := by rw [hV]; rfl
      have q3 : decide ((s.size : Int) - 2 < (V.size : Int)) = false := by rw [decide_eq_false_iff_not]; omega
      clear hv h1 h2 hV hvs hS hF hW
      go_enter Tryz.func6, Tryz.ntmps6
      go_wp2_with fail
      refine (HC.out _).mono ?_
      rintro e w' ⟨rfl, rfl⟩
      go_wp2_with fail
      refine (HD.out _).mono ?_
      rintro e w' ⟨rfl, rfl⟩
      go_wp2_with fail
      refine HT.out.mono ?_
      rintro e w1 ⟨A, cap, rfl, hr, hb⟩
      obtain ⟨g, rfl, hc⟩ := hr (Nat.zero_lt_succ _)
      obtain ⟨a0, a1, _, _⟩ := hc 0 _ rfl
      simp only [txt_self] at a1
      have HB1 := Lib.hid hb
      have HC0 := Lib.hid hc
      clear hb hc hr
      go_wp2_with fail
      refine (HN.out _).mono ?_
      rintro e w' ⟨rfl, rfl⟩
      go_wp2_with fail
      refine (HV.out _ HB1.out).mono ?_
      rintro e w2 ⟨rfl, hb⟩
      have b0 := cell_keep2 hb a0
      have b1 := cell_keep2 hb a1
      have HB2 := Lib.hid (HB1.out.trans (hb.mono HB1.out.size))
      clear hb a0 a1
      go_wp2_with fail
      refine (HN.out _).mono ?_
      rintro e w' ⟨rfl, rfl⟩
      go_wp2_with fail
      refine (HA.out _ HB2.out).mono ?_
      rintro e w4 ⟨rfl, hb⟩
      have HB4 := Lib.hid (HB2.out.trans (hb.mono HB2.out.size))
      clear hb
      go_wp2_with fail
      go_ret
      exact ⟨rfl, HB4.out⟩
    | error e0 =>
      have HT := Lib.hid (tokens_any hS s (by omega) (all_ok _) w hF hW)
      have he0 := valR_err hv
      have q0 : (((e0 : Nat) : Int) == 0) = false := by simp only [beq_eq_false_iff_ne, ne_eq]; omega
      rw [hv] at HV
      obtain ⟨x0, hx0⟩ := valV_shape (.error e0)
      rw [hx0] at HV
      simp only [valE] at HV
      clear hv he0 hx0 hS hF hW
      go_enter Tryz.func6, Tryz.ntmps6
      go_wp2_with fail
      refine (HC.out _).mono ?_
      rintro e w' ⟨rfl, rfl⟩
      go_wp2_with fail
      refine (HD.out _).mono ?_
      rintro e w' ⟨rfl, rfl⟩
      go_wp2_with fail
      refine HT.out.mono ?_
      rintro e w1 ⟨v, rfl, _, hb⟩
      have HB1 := Lib.hid hb
      clear hb
      go_wp2_with fail
      refine (HN.out _).mono ?_
      rintro e w' ⟨rfl, rfl⟩
      go_wp2_with fail
      refine (HV.out _ HB1.out).mono ?_
      rintro e w2 ⟨rfl, hb⟩
      have HB2 := Lib.hid (HB1.out.trans (hb.mono HB1.out.size))
      clear hb
      go_wp2_with fail
      refine (HN.out _).mono ?_
      rintro e w' ⟨rfl, rfl⟩
      go_wp2_with fail
      refine (HA.out _ HB2.out).mono ?_
      rintro e w4 ⟨rfl, hb⟩
      have HB4 := Lib.hid (HB2.out.trans (hb.mono HB2.out.size))
      clear hb
      go_wp2_with fail
      go_ret
      exact ⟨rfl, HB4.out⟩
end Go.Proofs.YtpijgeogopopbaaGreatDoor
