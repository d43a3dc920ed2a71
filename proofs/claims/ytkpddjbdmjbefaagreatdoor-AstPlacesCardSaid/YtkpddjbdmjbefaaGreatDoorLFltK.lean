/-
  num.Float AT THE FLOATS OF THE CHAPTER'S EXAMPLES: what it returns; no memory turns. Conditions: what three variables of Go's library hold (FltFacts).
-/
import Derived.Test.YtkpddjbdmjbefaaGreatDoorLFltRun
import Derived.Test.YtkpddjbdmjbefaaGreatDoorLVal
import Derived.Test.YtkpddjbdmjbefaaGreatDoorRows
namespace Go.Proofs.YtkpddjbdmjbefaaGreatDoor
open Go.RowKit Go.Lib

/-- Powers of ten, as floats' bits. -/
def fpow10 : List Nat := match (Rows.laid_internal_strconv_float64pow10 : DataW Unit) with
  | .slice l _ => l.map fun | .lit (.float _ n) => n | _ => 0
  | _ => []
structure FltFacts (W : World) : Prop where
  mant : W.cell? ⟨8, 0, none⟩ = some (.int .u64 52)
  opt : W.cell? ⟨7, 0, none⟩ = some (.bool true)
  fpow : ∃ R o cap, W.cell? ⟨11, 0, none⟩ = some (.slice (some ⟨R, o, none⟩) 23 cap) ∧ ∀ i, i < 23 → W.cell? ⟨R, o + i, none⟩ = some (.float .f64 (fpow10.getD i 0))
theorem FltFacts.below {W W' : World} (h : FltFacts W) (hb : Below W.heap.size W W') : FltFacts W' := by
  refine ⟨cell_keep2 hb h.mant, cell_keep2 hb h.opt, ?_⟩
  obtain ⟨R, o, cap, h1, h2⟩ := h.fpow
  exact ⟨R, o, cap, cell_keep2 hb h1, fun i hi => cell_keep2 hb (h2 i hi)⟩
set_option maxHeartbeats 400000 in
theorem exact15 (w : World) (h : FltFacts w) : Calls Tryz.prog 150 #[.int .u64 15, .int .i64 (-1), .bool false] w fun e w' => e = .returned (.tuple #[.float .f64 4609434218613702656, .bool true]) ∧ w = w' := by
  obtain ⟨R, o, cap, h10, hrow⟩ := h.fpow
  have hm := h.mant
  have hr1 : w.cell? ⟨R, o + 1, none⟩ = some (.float .f64 4621819117588971520) := hrow 1 (by decide)
  clear hrow h
  have hq : ∀ w, (binOp .quo 96 (.float .f64 (floatOfInt .f64 15)) (.float .f64 4621819117588971520)).run Tryz.prog w = .ok (.float .f64 4609434218613702656) w := fun _ => by kernel_rfl
  go_enter Tryz.func150, Tryz.ntmps150
  go_wp2
  go_ret2
  exact ⟨rfl, rfl⟩
set_option maxHeartbeats 400000 in
theorem exact15e3 (w : World) (h : FltFacts w) : Calls Tryz.prog 150 #[.int .u64 15, .int .i64 2, .bool false] w fun e w' => e = .returned (.tuple #[.float .f64 4654311885213007872, .bool true]) ∧ w = w' := by
  obtain ⟨R, o, cap, h10, hrow⟩ := h.fpow
  have hm := h.mant
  have hr1 : w.cell? ⟨R, o + 2, none⟩ = some (.float .f64 4636737291354636288) := hrow 2 (by decide)
  clear hrow h
  have hq : ∀ w, (binOp .mul 96 (.float .f64 (floatOfInt .f64 15)) (.float .f64 4636737291354636288)).run Tryz.prog w = .ok (.float .f64 4654311885213007872) w := fun _ => by kernel_rfl
  go_enter Tryz.func150, Tryz.ntmps150
  go_wp2
  go_ret2
  exact ⟨rfl, rfl⟩
set_option maxRecDepth 100000 in
set_option maxHeartbeats 400000 in
theorem atof15 (w : World) (h : FltFacts w) : Calls Tryz.prog 137 #[.string ⟨#[49, 46, 53]⟩] w fun e w' => e = .returned (.tuple #[.float .f64 4609434218613702656, .int .i64 3, .nilIface]) ∧ w = w' := by
  have ho := h.opt
  go_enter Tryz.func137, Tryz.ntmps137
  go_wp2_with fail
  refine (special15 _).mono ?_
  rintro e w' ⟨rfl, rfl⟩
  go_wp2_with fail
  refine (read15 _).mono ?_
  rintro e w' ⟨rfl, rfl⟩
  go_wp2_with fail
  refine (bool2false _).mono ?_
  rintro e w' ⟨rfl, rfl⟩
  go_wp2_with fail
  refine (exact15 _ h).mono ?_
  rintro e w' ⟨rfl, rfl⟩
  go_wp2_with fail
  go_ret3
  exact ⟨rfl, rfl⟩
theorem prefix15 (w : World) (h : FltFacts w) : Calls Tryz.prog 131 #[.string ⟨#[49, 46, 53]⟩, .int .i64 64] w fun e w' => e = .returned (.tuple #[.float .f64 4609434218613702656, .int .i64 3, .nilIface]) ∧ w = w' := by
  go_enter Tryz.func131, Tryz.ntmps131
  go_wp2_with fail
  refine (atof15 _ h).mono ?_
  rintro e w' ⟨rfl, rfl⟩
  go_wp2_with fail
  go_ret3
  exact ⟨rfl, rfl⟩
theorem inner15 (w : World) (h : FltFacts w) : Calls Tryz.prog 124 #[.string ⟨#[49, 46, 53]⟩, .int .i64 64] w fun e w' => e = .returned (.tuple #[.float .f64 4609434218613702656, .nilIface]) ∧ w = w' := by
  go_enter Tryz.func124, Tryz.ntmps124
  go_wp2_with fail
  refine (prefix15 _ h).mono ?_
  rintro e w' ⟨rfl, rfl⟩
  go_wp2_with fail
  go_ret2
  exact ⟨rfl, rfl⟩
theorem parse15 (w : World) (h : FltFacts w) : Calls Tryz.prog 117 #[.string ⟨#[49, 46, 53]⟩, .int .i64 64] w fun e w' => e = .returned (.tuple #[.float .f64 4609434218613702656, .nilIface]) ∧ w = w' := by
  go_enter Tryz.func117, Tryz.ntmps117
  go_wp2_with fail
  refine (inner15 _ h).mono ?_
  rintro e w' ⟨rfl, rfl⟩
  go_wp2_with fail
  go_ret2
  exact ⟨rfl, rfl⟩
theorem float15 (w : World) (h : FltFacts w) : Calls Tryz.prog 107 #[.string ⟨#[49, 46, 53]⟩] w fun e w' => e = .returned (.tuple #[.float .f64 4609434218613702656, .int .i64 0]) ∧ w = w' := by
  go_enter Tryz.func107, Tryz.ntmps107
  go_wp2_with fail
  refine (isFloat15 _).mono ?_
  rintro e w' ⟨rfl, rfl⟩
  go_wp2_with fail
  refine (parse15 _ h).mono ?_
  rintro e w' ⟨rfl, rfl⟩
  go_wp2_with fail
  go_ret2
  exact ⟨rfl, rfl⟩
set_option maxRecDepth 100000 in
set_option maxHeartbeats 400000 in
theorem atof15e3 (w : World) (h : FltFacts w) : Calls Tryz.prog 137 #[.string ⟨#[49, 46, 53, 101, 51]⟩] w fun e w' => e = .returned (.tuple #[.float .f64 4654311885213007872, .int .i64 5, .nilIface]) ∧ w = w' := by
  have ho := h.opt
  go_enter Tryz.func137, Tryz.ntmps137
  go_wp2_with fail
  refine (special15e3 _).mono ?_
  rintro e w' ⟨rfl, rfl⟩
  go_wp2_with fail
  refine (read15e3 _).mono ?_
  rintro e w' ⟨rfl, rfl⟩
  go_wp2_with fail
  refine (bool2false _).mono ?_
  rintro e w' ⟨rfl, rfl⟩
  go_wp2_with fail
  refine (exact15e3 _ h).mono ?_
  rintro e w' ⟨rfl, rfl⟩
  go_wp2_with fail
  go_ret3
  exact ⟨rfl, rfl⟩
theorem prefix15e3 (w : World) (h : FltFacts w) : Calls Tryz.prog 131 #[.string ⟨#[49, 46, 53, 101, 51]⟩, .int .i64 64] w fun e w' => e = .returned (.tuple #[.float .f64 4654311885213007872, .int .i64 5, .nilIface]) ∧ w = w' := by
  go_enter Tryz.func131, Tryz.ntmps131
  go_wp2_with fail
  refine (atof15e3 _ h).mono ?_
  rintro e w' ⟨rfl, rfl⟩
  go_wp2_with fail
  go_ret3
  exact ⟨rfl, rfl⟩
theorem inner15e3 (w : World) (h : FltFacts w) : Calls Tryz.prog 124 #[.string ⟨#[49, 46, 53, 101, 51]⟩, .int .i64 64] w fun e w' => e = .returned (.tuple #[.float .f64 4654311885213007872, .nilIface]) ∧ w = w' := by
  go_enter Tryz.func124, Tryz.ntmps124
  go_wp2_with fail
  refine (prefix15e3 _ h).mono ?_
  rintro e w' ⟨rfl, rfl⟩
  go_wp2_with fail
  go_ret2
  exact ⟨rfl, rfl⟩
theorem parse15e3 (w : World) (h : FltFacts w) : Calls Tryz.prog 117 #[.string ⟨#[49, 46, 53, 101, 51]⟩, .int .i64 64] w fun e w' => e = .returned (.tuple #[.float .f64 4654311885213007872, .nilIface]) ∧ w = w' := by
  go_enter Tryz.func117, Tryz.ntmps117
  go_wp2_with fail
  refine (inner15e3 _ h).mono ?_
  rintro e w' ⟨rfl, rfl⟩
  go_wp2_with fail
  go_ret2
  exact ⟨rfl, rfl⟩
theorem float15e3 (w : World) (h : FltFacts w) : Calls Tryz.prog 107 #[.string ⟨#[49, 46, 53, 101, 51]⟩] w fun e w' => e = .returned (.tuple #[.float .f64 4654311885213007872, .int .i64 0]) ∧ w = w' := by
  go_enter Tryz.func107, Tryz.ntmps107
  go_wp2_with fail
  refine (isFloat15e3 _).mono ?_
  rintro e w' ⟨rfl, rfl⟩
  go_wp2_with fail
  refine (parse15e3 _ h).mono ?_
  rintro e w' ⟨rfl, rfl⟩
  go_wp2_with fail
  go_ret2
  exact ⟨rfl, rfl⟩
theorem float15e0001 (w : World) : Calls Tryz.prog 107 #[.string ⟨#[49, 46, 53, 101, 48, 48, 48, 49]⟩] w fun e w' => e = .returned (.tuple #[.float .f64 0, .int .i64 4]) ∧ w = w' := by
  go_enter Tryz.func107, Tryz.ntmps107
  go_wp2_with fail
  refine (isFloat15e0001 _).mono ?_
  rintro e w' ⟨rfl, rfl⟩
  go_wp2_with fail
  go_ret2
  exact ⟨rfl, rfl⟩
/-- What the chapter's examples' floats are. -/
def ffK (l : List UInt8) : Nat := if l = [49, 46, 53, 101, 48, 48, 48, 49] then 4 else 0
def OKK (l : List UInt8) : Prop := l = [49, 46, 53] ∨ l = [49, 46, 53, 101, 51] ∨ l = [49, 46, 53, 101, 48, 48, 48, 49]
theorem spec_known : FSpec FltFacts ffK OKK := by
  refine ⟨fun _ _ h hb => h.below hb, ?_⟩
  rintro ⟨⟨x⟩⟩ h w hw
  rcases h with rfl | rfl | rfl
  · exact (float15 w hw).mono fun e w' h => ⟨_, h.1, h.2 ▸ Below.refl _ _⟩
  · exact (float15e3 w hw).mono fun e w' h => ⟨_, h.1, h.2 ▸ Below.refl _ _⟩
  · exact (float15e0001 w).mono fun e w' h => ⟨_, h.1, h.2 ▸ Below.refl _ _⟩
end Go.Proofs.YtkpddjbdmjbefaaGreatDoor
