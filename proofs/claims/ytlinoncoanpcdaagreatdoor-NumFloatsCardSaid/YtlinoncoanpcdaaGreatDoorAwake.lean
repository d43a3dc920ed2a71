/-
  THE CLOSED PART THAT EVERY LAW OF THIS SEAT ASKS (emendlaw01.awake): in every world that holds the listed variables it returns true, and leaves all memory that was there as it was. Condition: Facts (what the rows' list says of the variables).
-/
import Derived.Test.YtlinoncoanpcdaaGreatDoorRun
import Derived.Test.YtlinoncoanpcdaaGreatDoorLaid
import Derived.Test.YtlinoncoanpcdaaGreatDoorShelf
import Derived.Test.YtlinoncoanpcdaaGreatDoorHex
import Derived.WalkLawsBesides
import Derived.Outline
import Derived.LoopTactic
import Derived.Deep.QuietTactic
import Derived.BigQuiet
namespace Go.Proofs.YtlinoncoanpcdaaGreatDoor
open Go.RowKit Go.Lib
set_option maxHeartbeats 400000 in
theorem exact15 (w : World) (h : Facts w) : Calls Tryz.prog 138 #[.int .u64 15, .int .i64 (-1), .bool false] w fun e w' => e = .returned (.tuple #[.float .f64 4609434218613702656, .bool true]) ∧ w = w' := by
  obtain ⟨R, o, cap, h10, hrow⟩ := h.fpow
  have hm := h.mant
  have hr1 : w.cell? ⟨R, o + 1, none⟩ = some (.float .f64 4621819117588971520) := hrow 1 (by decide)
  clear hrow h
  have hq : ∀ w, (binOp .quo 27 (.float .f64 (floatOfInt .f64 15)) (.float .f64 4621819117588971520)).run Tryz.prog w = .ok (.float .f64 4609434218613702656) w := fun _ => by kernel_rfl
  go_enter Tryz.func138, Tryz.ntmps138
  go_wp2
  go_ret2
  exact ⟨rfl, rfl⟩
set_option maxRecDepth 100000 in
set_option maxHeartbeats 400000 in
theorem atof15 (w : World) (h : Facts w) : Calls Tryz.prog 118 #[.string ⟨#[49, 46, 53]⟩] w fun e w' => e = .returned (.tuple #[.float .f64 4609434218613702656, .int .i64 3, .nilIface]) ∧ w = w' := by
  have ho := h.opt
  go_enter Tryz.func118, Tryz.ntmps118
  go_wp2_with fail
  refine (special15 _).mono ?_
  rintro e w' ⟨rfl, rfl⟩
  go_wp2_with fail
  refine (read15 _).mono ?_
  rintro e w' ⟨rfl, rfl⟩
  go_wp2_with fail
  refine (bool2false _).mono ?_
  rintro e w' ⟨rfl, rfl⟩
  go_wp2_with fail
  refine (exact15 _ h).mono ?_
  rintro e w' ⟨rfl, rfl⟩
  go_wp2_with fail
  go_ret3
  exact ⟨rfl, rfl⟩
theorem prefix15 (w : World) (h : Facts w) : Calls Tryz.prog 102 #[.string ⟨#[49, 46, 53]⟩, .int .i64 64] w fun e w' => e = .returned (.tuple #[.float .f64 4609434218613702656, .int .i64 3, .nilIface]) ∧ w = w' := by
  go_enter Tryz.func102, Tryz.ntmps102
  go_wp2_with fail
  refine (atof15 _ h).mono ?_
  rintro e w' ⟨rfl, rfl⟩
  go_wp2_with fail
  go_ret3
  exact ⟨rfl, rfl⟩
theorem inner15 (w : World) (h : Facts w) : Calls Tryz.prog 86 #[.string ⟨#[49, 46, 53]⟩, .int .i64 64] w fun e w' => e = .returned (.tuple #[.float .f64 4609434218613702656, .nilIface]) ∧ w = w' := by
  go_enter Tryz.func86, Tryz.ntmps86
  go_wp2_with fail
  refine (prefix15 _ h).mono ?_
  rintro e w' ⟨rfl, rfl⟩
  go_wp2_with fail
  go_ret2
  exact ⟨rfl, rfl⟩
theorem parse15 (w : World) (h : Facts w) : Calls Tryz.prog 55 #[.string ⟨#[49, 46, 53]⟩, .int .i64 64] w fun e w' => e = .returned (.tuple #[.float .f64 4609434218613702656, .nilIface]) ∧ w = w' := by
  go_enter Tryz.func55, Tryz.ntmps55
  go_wp2_with fail
  refine (inner15 _ h).mono ?_
  rintro e w' ⟨rfl, rfl⟩
  go_wp2_with fail
  go_ret2
  exact ⟨rfl, rfl⟩
theorem float15 (w : World) (h : Facts w) : Calls Tryz.prog 15 #[.string ⟨#[49, 46, 53]⟩] w fun e w' => e = .returned (.tuple #[.float .f64 4609434218613702656, .int .i64 0]) ∧ w = w' := by
  go_enter Tryz.func15, Tryz.ntmps15
  go_wp2_with fail
  refine (isFloat15 _).mono ?_
  rintro e w' ⟨rfl, rfl⟩
  go_wp2_with fail
  refine (parse15 _ h).mono ?_
  rintro e w' ⟨rfl, rfl⟩
  go_wp2_with fail
  go_ret2
  exact ⟨rfl, rfl⟩
theorem int42 (w : World) : Calls Tryz.prog 13 #[.string ⟨#[52, 50]⟩] w fun e w' => e = .returned (.tuple #[.int .i64 42, .int .i64 0]) ∧ Below w.heap.size w w' := by
  go_enter Tryz.func13, Tryz.ntmps13
  go_wp2_with fail
  refine (isWhole42 _).mono ?_
  rintro e w' ⟨rfl, rfl⟩
  go_wp2_with fail
  refine (Tryz.strconv_ParseInt_10_at64_ok ⟨#[52, 50]⟩ (by decide) 42 (by decide) _).mono ?_
  rintro e w' ⟨rfl, hw⟩
  have hb : Below w.heap.size w w' := by
    rcases hw with rfl | ⟨t, rfl⟩
    · exact Below.refl _ _
    · exact Lib.bytesWorld_below ..
  have HB := Lib.hid hb
  clear hw hb
  go_wp2_with fail
  go_ret2
  exact ⟨rfl, HB.out⟩
theorem below_grow (w : World) (k : Nat) (os : Array Obj) : Below w.heap.size w (Sort.grow (w.drewN k) os) :=
  ⟨rfl, rfl, rfl, by simp [Sort.grow], fun j hj => by
    show ((w.drewN k).heap ++ os)[j]? = _
    rw [Array.getElem?_append_left (by simpa using hj)]
    rfl⟩
theorem text_any (n : Int) (h0 : -9223372036854775808 ≤ n) (h1 : n ≤ 9223372036854775807) (w : World) (h : Facts w) : Calls Tryz.prog 19 #[.int .i64 n] w fun e w' => e = .returned (.string ⟨(Lib.itoa n).toArray⟩) ∧ Below w.heap.size w w' := by
  have HP := Lib.hid h.pow10
  clear h
  have H0 := Lib.hid h0
  have H1 := Lib.hid h1
  clear h0 h1
  go_enter Tryz.func19, Tryz.ntmps19
  go_wp2_with fail
  refine (Tryz.strconv_FormatInt_10 n H0.out H1.out _ HP.out).mono ?_
  rintro e w' ⟨rfl, k, os, hw⟩
  have HB := Lib.hid (show Below w.heap.size w w' from hw ▸ below_grow w k os)
  clear hw
  go_wp2_with fail
  go_ret
  exact ⟨rfl, HB.out⟩
theorem text5 (w : World) (h : Facts w) : Calls Tryz.prog 19 #[.int .i64 (-5)] w fun e w' => e = .returned (.string ⟨#[45, 53]⟩) ∧ Below w.heap.size w w' := by
  have e : (⟨(Lib.itoa (-5)).toArray⟩ : ByteArray) = ⟨#[45, 53]⟩ := by kernel_rfl
  rw [← e]
  exact text_any (-5) (by decide) (by decide) w h
theorem show15 (w : World) (h : Facts w) : Calls Tryz.prog 21 #[.float .f64 4609434218613702656] w fun e w' => e = .returned (.string ⟨#[51, 102, 102, 56, 48, 48, 48, 48, 48, 48, 48, 48, 48, 48, 48, 48]⟩) ∧ Below w.heap.size w w' := by
  have e : (⟨(digs 4609434218613702656 16).toArray⟩ : ByteArray) = ⟨#[51, 102, 102, 56, 48, 48, 48, 48, 48, 48, 48, 48, 48, 48, 48, 48]⟩ := by kernel_rfl
  rw [← e]
  exact show_num 4609434218613702656 w h (by kernel_rfl) (by decide)
set_option maxHeartbeats 400000 in
/-- awake. -/
theorem awake_any (w : World) (h : Facts w) : Calls Tryz.prog 18 #[] w fun e w' => e = .returned (.bool true) ∧ Below w.heap.size w w' := by
  go_enter Tryz.func18, Tryz.ntmps18
  go_wp2_with fail
  refine (int42 _).mono ?_
  rintro e w1 ⟨rfl, hb1⟩
  have F1 := h.below hb1
  have HB1 := Lib.hid hb1
  clear hb1
  go_wp2_with fail
  refine (float15 _ F1).mono ?_
  rintro e w' ⟨rfl, rfl⟩
  go_wp2_with fail
  refine (div72 _).mono ?_
  rintro e w' ⟨rfl, rfl⟩
  go_wp2_with fail
  refine (show15 _ F1).mono ?_
  rintro e w2 ⟨rfl, hb2⟩
  have F2 := F1.below hb2
  have HB2 := Lib.hid hb2
  clear hb2
  go_wp2_with fail
  refine (less15 _).mono ?_
  rintro e w' ⟨rfl, rfl⟩
  go_wp2_with fail
  refine (text5 _ F2).mono ?_
  rintro e w3 ⟨rfl, hb3⟩
  have HB3 := Lib.hid hb3
  clear hb3
  go_wp2_with fail
  go_ret
  have b12 := HB1.out.trans (HB2.out.mono HB1.out.size)
  exact ⟨rfl, b12.trans (HB3.out.mono b12.size)⟩
end Go.Proofs.YtlinoncoanpcdaaGreatDoor
