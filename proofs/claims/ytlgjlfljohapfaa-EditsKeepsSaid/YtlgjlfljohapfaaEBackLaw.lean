/-
  THE WALK OF emendlaw07.EditsBack: at every text and every list of splices it returns true; no memory that was there turns. Condition: what can be read at all.
-/
import Derived.Test.YtlgjlfljohapfaaEMovesLaw
import Derived.Test.YtlgjlfljohapfaaEPlain4
namespace Go.Proofs.Ytlgjlfljohapfaa
open Go.RowKit

theorem few_size {L : List Spl} : ∀ x ∈ fewL L, x.s.size ≤ 300 := by
  intro x hx
  obtain ⟨y, _, rfl⟩ := List.mem_map.1 hx
  exact cutS_le _ _
set_option maxRecDepth 100000 in
set_option maxHeartbeats 2000000 in
theorem editsBack_walk (text : ByteArray) (A : Option Addr) (L : List Spl) (c : Nat) (w : World) (hT : text.size ≤ maxLen) (hS : SR w A L) (hL : inL L) :
    Calls Try.prog 8 #[.string text, .slice A L.length c] w fun e w' => e = .returned (.bool true) ∧ Below w.heap.size w w' := by
  have HF := Lib.hid (few_any A L c (fun x hx => (hL x hx).2) w hS)
  have HC := Lib.hid (cut_any text hT w)
  have ht := cutS_le 1500 text
  have hn := fewL_len L
  have hx := few_size (L := L)
  unfold FewEnd at HF
  generalize fewL L = F at *
  generalize cutS 1500 text = T at *
  have hlim := few_lim ht hn hx
  have hfe := few_fault ht hn hx
  have HA := Lib.hid (fun A c W h => apply_any T A F c hlim W h)
  have HI := Lib.hid (fun A c W h => invert_any T A F c hlim W h)
  have HK := Lib.hid (fun A c W h => check_any (T.size : Int) A F c (by omega) W h)
  have HW := Lib.hid awake_any
  unfold InvEnd at HI
  rw [hfe] at HA HI
  by_cases hf : fits T.size F = true
  · obtain ⟨hl2, hf2, ha2⟩ := back_yes ht hn hx hf
    have HB := Lib.hid (fun A c W h => apply_any (textOf (madeL T F)) A (invL T F) c hl2 W h)
    rw [hf2, ha2] at HB
    have hap : applyS T F = textOf (madeL T F) := by unfold applyS; rw [hfe, hf]; rfl
    have hil : (invL T F).length = F.length := invF_len _ _ _
    rw [hap, hf] at HA
    rw [hf] at HI HK
    unfold chkE at HA HI HK
    generalize textOf (madeL T F) = M at *
    generalize invL T F = V at *
    rw [hil] at HB
    have HIL := Lib.hid hil
    clear hl2 hf2 ha2 hap hil hf hfe hlim hx ht hL hS hT
    go_enter Try.func8, Try.ntmps8
    go_wp2_with fail
    refine HC.out.mono ?_
    rintro e w' ⟨rfl, rfl⟩
    go_wp2_with fail
    refine HF.out.mono ?_
    rintro e w1 ⟨v1, rfl, ho1, hb1⟩
    obtain ⟨A1, c1, rfl, hr1⟩ := ho1.reads
    have HR1 := Lib.hid hr1
    have HB1 := Lib.hid hb1
    clear ho1 hr1 hb1 HF HC
    go_wp2_with fail
    refine (HA.out _ _ _ HR1.out).mono ?_
    rintro e w2 ⟨rfl, hb2⟩
    have HR2 := Lib.hid (HR1.out.keep hb2)
    have HB2 := Lib.hid (HB1.out.trans (hb2.mono HB1.out.size))
    clear hb2 HB1 HR1 HA
    go_wp2_with fail
    refine (HI.out _ _ _ HR2.out).mono ?_
    rintro e w3 ⟨v3, rfl, hb3, ho3, _⟩
    obtain ⟨A3, c3, rfl, hr3⟩ := (ho3 rfl).reads
    have HV3 := Lib.hid hr3
    have HR3 := Lib.hid (HR2.out.keep hb3)
    have HB3 := Lib.hid (HB2.out.trans (hb3.mono HB2.out.size))
    clear hb3 HB2 HR2 HI ho3 hr3
    rw [HIL.out]
    go_wp2_with fail
    refine (HK.out _ _ _ HR3.out).mono ?_
    rintro e w4 ⟨rfl, hb4⟩
    have HV4 := Lib.hid (HV3.out.keep hb4)
    have HB4 := Lib.hid (HB3.out.trans (hb4.mono HB3.out.size))
    clear hb4 HB3 HR3 HK HV3
    go_wp2_with fail
    refine (HB.out _ _ _ HV4.out).mono ?_
    rintro e w5 ⟨rfl, hb5⟩
    have HB5 := Lib.hid (HB4.out.trans (hb5.mono HB4.out.size))
    clear hb5 HB4 HV4 HB
    go_wp2_with fail
    refine (HW.out _).mono ?_
    rintro e w6 ⟨rfl, hb6⟩
    have HB6 := Lib.hid (HB5.out.trans (hb6.mono HB5.out.size))
    clear hb6 HB5
    go_wp2_with fail
    go_ret
    exact ⟨rfl, HB6.out⟩
  · have hf' : fits T.size F = false := by simpa using hf
    have hap : applyS T F = ⟨#[]⟩ := by unfold applyS; rw [hfe, hf']; rfl
    rw [hap, hf'] at HA
    rw [hf'] at HI HK
    unfold chkE at HA HI HK
    clear hap hf hf' hfe hlim hx ht hL hS hT
    go_enter Try.func8, Try.ntmps8
    go_wp2_with fail
    refine HC.out.mono ?_
    rintro e w' ⟨rfl, rfl⟩
    go_wp2_with fail
    refine HF.out.mono ?_
    rintro e w1 ⟨v1, rfl, ho1, hb1⟩
    obtain ⟨A1, c1, rfl, hr1⟩ := ho1.reads
    have HR1 := Lib.hid hr1
    have HB1 := Lib.hid hb1
    clear ho1 hr1 hb1 HF HC
    go_wp2_with fail
    refine (HA.out _ _ _ HR1.out).mono ?_
    rintro e w2 ⟨rfl, hb2⟩
    have HR2 := Lib.hid (HR1.out.keep hb2)
    have HB2 := Lib.hid (HB1.out.trans (hb2.mono HB1.out.size))
    clear hb2 HB1 HR1 HA
    go_wp2_with fail
    refine (HI.out _ _ _ HR2.out).mono ?_
    rintro e w3 ⟨v3, rfl, hb3, _, hv3⟩
    obtain rfl := hv3 (by simp)
    have HR3 := Lib.hid (HR2.out.keep hb3)
    have HB3 := Lib.hid (HB2.out.trans (hb3.mono HB2.out.size))
    clear hb3 HB2 HR2 HI hv3
    go_wp2_with fail
    refine (HK.out _ _ _ HR3.out).mono ?_
    rintro e w4 ⟨rfl, hb4⟩
    have HB4 := Lib.hid (HB3.out.trans (hb4.mono HB3.out.size))
    clear hb4 HB3 HR3 HK
    go_wp2_with fail
    refine (HW.out _).mono ?_
    rintro e w6 ⟨rfl, hb6⟩
    have HB6 := Lib.hid (HB4.out.trans (hb6.mono HB4.out.size))
    clear hb6 HB4
    go_wp2_with fail
    go_ret
    exact ⟨rfl, HB6.out⟩
end Go.Proofs.Ytlgjlfljohapfaa
