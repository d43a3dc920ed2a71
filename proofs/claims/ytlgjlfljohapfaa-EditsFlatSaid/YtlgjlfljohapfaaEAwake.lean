/-
  emendlaw07's awake: some of the chapter's answers. No memory that was there turns. No condition.
-/
import Derived.Test.YtlgjlfljohapfaaEApply
namespace Go.Proofs.Ytlgjlfljohapfaa
open Go.RowKit

def abcdef : ByteArray := ⟨#[97, 98, 99, 100, 101, 102]⟩
theorem lim_some : Lim abcdef someL := ⟨by decide, by decide, by intro x hx; simp [someL] at hx; rcases hx with rfl | rfl | rfl <;> decide⟩
theorem ok_some : ∀ x ∈ someL, okS x := by intro x hx; simp [someL] at hx; rcases hx with rfl | rfl | rfl <;> (unfold okS; decide)
theorem made_some : madeL abcdef someL = [97, 88, 89, 90, 100, 101, 102] := by decide +kernel
theorem fits_some : fits abcdef.size someL = true := by decide +kernel
theorem fault_some : faultV abcdef someL = 0 := by unfold faultV; rw [if_pos fits_some, made_some]; decide
theorem apply_some : applyS abcdef someL = ⟨#[97, 88, 89, 90, 100, 101, 102]⟩ := by unfold applyS; rw [if_pos fault_some, made_some]; rfl
theorem mov_some : movE someL 3 = .returned (.tuple #[.int .i64 4, .bool true]) := by
  have h : movOk someL 3 = true := by decide +kernel
  rw [movE_yes h]
  have h2 : (3 : Int) + movD 3 someL = 4 := by decide +kernel
  rw [h2]
set_option maxRecDepth 100000 in
set_option maxHeartbeats 1000000 in
theorem awake_any (w : World) : Calls Try.prog 23 #[] w fun e w' => e = .returned (.bool true) ∧ Below w.heap.size w w' := by
  have HA := Lib.hid (fun A c W h => apply_any abcdef A someL c lim_some W h)
  rw [fault_some, apply_some] at HA
  have HM := Lib.hid (fun A c W h => moved_any 3 A someL c (by decide) ok_some W h)
  rw [mov_some] at HM
  have HC := Lib.hid (fun A c W h => check_any 6 A someL c (by decide) W h)
  rw [show fits 6 someL = true from fits_some] at HC
  have HS := Lib.hid some_any
  unfold FewEnd at HS
  unfold chkE abcdef at *
  go_enter Try.func23, Try.ntmps23
  go_wp2_with fail
  refine (HS.out _).mono ?_
  rintro e w1 ⟨v1, rfl, ho1, hb1⟩
  obtain ⟨A1, c1, rfl, hr1⟩ := ho1.reads
  have HR1 := Lib.hid hr1
  have HB1 := Lib.hid hb1
  clear ho1 hr1 hb1
  go_wp2_with fail
  refine (HA.out _ _ _ HR1.out).mono ?_
  rintro e w2 ⟨rfl, hb2⟩
  have HB2 := Lib.hid (HB1.out.trans (hb2.mono HB1.out.size))
  clear hb2 HB1 HR1
  go_wp2_with fail
  refine (HS.out _).mono ?_
  rintro e w3 ⟨v3, rfl, ho3, hb3⟩
  obtain ⟨A3, c3, rfl, hr3⟩ := ho3.reads
  have HR3 := Lib.hid hr3
  have HB3 := Lib.hid (HB2.out.trans (hb3.mono HB2.out.size))
  clear ho3 hr3 hb3 HB2
  go_wp2_with fail
  refine (HM.out _ _ _ HR3.out).mono ?_
  rintro e w4 ⟨rfl, hb4⟩
  have HB4 := Lib.hid (HB3.out.trans (hb4.mono HB3.out.size))
  clear hb4 HB3 HR3
  go_wp2_with fail
  refine (HS.out _).mono ?_
  rintro e w5 ⟨v5, rfl, ho5, hb5⟩
  obtain ⟨A5, c5, rfl, hr5⟩ := ho5.reads
  have HR5 := Lib.hid hr5
  have HB5 := Lib.hid (HB4.out.trans (hb5.mono HB4.out.size))
  clear ho5 hr5 hb5 HB4
  go_wp2_with fail
  refine (HC.out _ _ _ HR5.out).mono ?_
  rintro e w6 ⟨rfl, hb6⟩
  have HB6 := Lib.hid (HB5.out.trans (hb6.mono HB5.out.size))
  clear hb6 HB5 HR5
  go_wp2_with fail
  go_ret
  exact ⟨rfl, HB6.out⟩
end Go.Proofs.Ytlgjlfljohapfaa
